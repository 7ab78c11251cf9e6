/-
  MColl, MVw: joined by program; no statement is proved here.
-/
import Derived.Test.YtjbbomokgpoilaaGreatDoorZHF
import Derived.Test.YtjbbomokgpoilaaGreatDoorZMJ
import Derived.Deep.RegionHeld3
/-
  Free runs are collected in a list; no statement is proved here.
-/
namespace Go.Proofs.YtjbbomokgpoilaaGreatDoor
open Go.RowKit Go.Shelf
attribute [local go_sem] Oper.semAt_some run_store_func

def AsPost (w : World) (L : List Rn) (e : Ending) (w' : World) : Prop := ∃ a c, e = .returned (.slice a L.length c) ∧ w'.ownsRow w.heap.size 98 3 (.slice a L.length c) L.length (L.flatMap Rn.cells) ∧ Ext [] w w'
set_option maxRecDepth 100000 in
set_option maxHeartbeats 4000000 in
theorem appendSeq_any (B Bn : Nat) (v : Value) (L : List Rn) (w : World) (hB : Boxed w B 100 (itv Bn)) (hBn : Boxed w Bn 38 v) (hL : Lst w v L) (hlen : L.length ≤ 1024) : Calls Tryz.prog 77 #[.slice none 0 0, hitv B] w (AsPost w (fr L)) := by
  have hfl := fr_len L
  refine (callsIn_wide (n := 12)).1 ?_
  refine callsIn_of_wp_marks Tryz.func77 rfl trivial ?_ rfl
  simp only [Tryz.ntmps77, List.size_toArray, List.length_cons, List.length_nil, Nat.reduceAdd, Nat.reduceSub, Array.replicate_succ, Array.replicate_zero, List.push_toArray, List.append_toArray, List.nil_append, List.cons_append]
  have hE0 := Ext.alloc [] w (.cells #[.slice none 0 0] 38)
  have bz := Boxed.new w 38 (.slice none 0 0)
  have hB1 := hE0.keep hB (by simp)
  have hBn1 := hE0.keep hBn (by simp)
  have hL1 := hL.keep0 hE0
  have hBl : B < w.heap.size := hB.lt
  have hBnl : Bn < w.heap.size := hBn.lt
  have hvl : ∀ g, v.ownBlock = some g → g < w.heap.size := fun g hg => (own_lt hL g hg).2
  obtain ⟨z, hz⟩ : ∃ z, w.heap.size = z := ⟨_, rfl⟩
  obtain ⟨W1, hW1⟩ : ∃ W1, w.alloc (.cells #[.slice none 0 0] 38) = W1 := ⟨_, rfl⟩
  have hs1 : W1.heap.size = z + 1 := by rw [← hW1, ← hz]; simp
  rw [hW1] at hE0 bz hB1 hBn1 hL1
  rw [hz] at bz hBl hBnl hvl
  have HG := hid (holes_gives 11 (by omega) B Bn v L (by omega) W1 hB1 hBn1 hL1)
  have HE0 := hid hE0
  have HW1 := hid hW1
  have HZ := hid hz
  have cl3 : OwnFrom W1.heap.size (Cll z 38 98 3 Rn.cells W1) := cl_own
  have st3 : Cll z 38 98 3 Rn.cells W1 [] W1 := Cll.start bz
  clear hB hBn hL hB1 hBn1 hL1 hE0 hW1 hz
  unfold hitv
  gi_wp2_with fail
  rw [HW1.out]
  simp only [HZ.out]
  refine loop_gives rfl (by omega) (gf := 80) (lb := #[.pointer (some ⟨B, 0, none⟩)]) rfl trivial (enters_of Tryz.func80 (by kernel_rfl) rfl) HG.out khK_t (fun W r o' hr => ⟨fun b hb o ho => (World.putObj_heap_other (by
      simp only [List.mem_cons, Option.mem_toList] at hb
      rcases hb with rfl | rfl | hb
      · omega
      · omega
      · have := hvl b hb; omega)).trans ho, fun b v hb => (World.putObj_heap_other (fun h => by subst h; rw [show W.heap[W1.heap.size + 1]? = _ from hb] at hr; cases hr)).trans hb⟩) (fun _ => rfl)
    (Cll z 38 98 3 Rn.cells W1) cl3 st3
    (fun x a' W => ∃ Bx, W.heap[Bx]? = some (.cells #[.int .i64 x.s, .int .i64 x.n, .bool x.u] 98 (0, 0)) ∧ a' = { tmps := #[.slice none 0 0, .func (.func 80) #[] #[.pointer (some ⟨B, 0, none⟩)], .pointer (some ⟨z, 0, none⟩), undef, .slice none 0 0, .pointer (some ⟨Bx, 0, none⟩), .func (.func 80) #[] #[.pointer (some ⟨B, 0, none⟩)], .agg #[.int .i64 x.s, .int .i64 x.n, .bool x.u], undef, undef, undef, undef, undef], defers := [] })
    (fun x a' _ X Y row hs hg hr => by obtain ⟨Bx, h2, h3⟩ := hs; exact ⟨Bx, rowAt_own Bx 98 (fun _ : Unit => #[.int .i64 x.s, .int .i64 x.n, .bool x.u]) () X Y row h2 hg (fun r e => (hr r e).2), h3⟩)
    ?assign ?body ?done
  case assign =>
    rintro l pre x W K hI hK
    gi_wp2
    exact hK _ _ ((KeepsOthers.alloc _ _).from _) (kh_ext0 (Ext.alloc [] _ _)) (hI.alloc _) ⟨W.heap.size, heap_alloc_new _ _, rfl⟩
  case body =>
    rintro l pre x a' W hl ⟨r, hr⟩ ⟨⟨u, bC, hrow, _⟩, hEx⟩ ⟨Bx, bX, rfl⟩ hlt
    have hc := Boxed.cell bC
    have c0 : W.cell? ⟨Bx, 0, none⟩ = some (.int .i64 x.s) := by rw [cell_of_row _ _ _ _ _ _ bX]; rfl
    have c1 : W.cell? ⟨Bx, 1, none⟩ = some (.int .i64 x.n) := by rw [cell_of_row _ _ _ _ _ _ bX]; rfl
    have c2 : W.cell? ⟨Bx, 2, none⟩ = some (.bool x.u) := by rw [cell_of_row _ _ _ _ _ _ bX]; rfl
    have hpl : pre.length + 1 ≤ 1024 := by omega
    have Hpl := hid hpl
    clear hpl hlt
    have hxr : ∀ j u, (Rn.cells x)[j]? = some u → (W.alloc (.cells #[.int .i64 x.s, .int .i64 x.n, .bool x.u] 98)).cell? ((⟨W.heap.size, 0, none⟩ : Addr).add j) = some u := fun j u hu => by
      rw [Addr.add_lit, cell_of_row _ _ _ _ _ _ (heap_alloc_new W _), Nat.zero_add, ← hu]; simp [Rn.cells]
    have HX := hid hxr
    have HC := hid bC
    have Hrow := hid hrow
    have HEx := hid hEx
    have hWs : W1.heap.size ≤ W.heap.size := hEx.size
    have HBW : Hid (z < W1.heap.size) := by show _ < _; omega
    obtain ⟨i0, hi, hz0, hz1', hz2⟩ := info_parts info98
    have HI0 := hid hi
    have HZ0 := hid hz0
    clear bC hrow hEx hxr bX hr hi hz0
    gi_wp2_with (gi_at_builtin; refine wpListIn_append_own _ rfl _ _ 38 rfl W1.heap.size 98 i0 _ 3 24 Tryz.underlying38 HI0.out HZ0.out hz1' hz2 rfl (by decide) _ _ _ rfl (Hrow.out.alloc _) ⟨W.heap.size, 0, none⟩ 1 1 (Rn.cells x) rfl rfl HX.out (by simp [Rn.cells, Value.oneCell']) (by have := Hpl.out; unfold maxLen; omega) (by have := Hpl.out; omega) (by simp; omega) ?_; intro v' w9 hown' hgrow _; obtain ⟨g', cap', rfl⟩ := ownsRow_succ hown'; obtain ⟨hv1, hv2, hst⟩ := coll_step (by decide) HC.out Hrow.out HEx.out HBW.out hown' hgrow; have hc1 := hv1.cell; have hf1 := hv1.frozen; have hc2 := hv2.cell; have Hst := hid hst; clear hst)
    exact ⟨Hst.out.keeps.from _, ⟨fun b hb o ho => (Hst.out.same b (by
        simp only [List.mem_cons, Option.mem_toList] at hb
        rcases hb with rfl | rfl | hb
        · omega
        · omega
        · have := hvl b hb; omega) (by
        simp only [List.mem_cons, Option.mem_toList] at hb
        rcases hb with rfl | rfl | hb
        · omega
        · omega
        · have := hvl b hb; omega)).trans ho, fun b v hb => Hst.out.typed b _ _ _ hb (by decide) (by decide)⟩, Hst.out.cl⟩
  case done =>
    rintro D W9 hD hI hK
    obtain ⟨⟨u, bC, hrow, _⟩, hEx⟩ := hI
    obtain ⟨av, cv, rfl, _⟩ := own_slice hrow
    have hc := Boxed.cell bC
    generalize hLL : fr L = LL at *
    have HK := hid hK
    have Hrow := hid hrow
    have HEx := hid hEx
    have HC := hid bC
    clear hK hrow hEx bC
    gi_wp2_with fail
    refine ⟨by simp, .inl ⟨_, _, rfl, run_takeDeferred HK.out, ?_⟩⟩
    have hx3 := Ext.grown (S := [D]) (grownBy_putObj' W9 D (.deferred none)) (by simp)
    have hzw := HZ.out
    refine ⟨_, results_tmp rfl _ _ _, av, cv, rfl, ?_, ?_⟩
    · refine own_base (own_keep Hrow.out hx3 ?_) (by omega)
      intro b hb
      rw [List.mem_singleton] at hb
      subst hb
      intro h
      rcases Hrow.out.2 with ⟨h0, _⟩ | ⟨g, cap, cur, h0, _, hg, _⟩
      · rw [h0] at h; simp [Value.ownBlock] at h
      · rw [h0] at h
        simp [Value.ownBlock] at h
        subst h
        rw [HK.out] at hg
        cases hg
    · exact (HE0.out.on HEx.out (by simp; omega)).on hx3 (by simp; omega)
set_option maxRecDepth 100000 in
theorem collect_runs (B Bn : Nat) (v : Value) (L : List Rn) (w : World) (hB : Boxed w B 100 (itv Bn)) (hBn : Boxed w Bn 38 v) (hL : Lst w v L) (hlen : L.length ≤ 1024) : Calls Tryz.prog 44 #[hitv B] w (AsPost w (fr L)) := by
  have K := appendSeq_any B Bn v L w hB hBn hL hlen
  clear hB hBn hL
  unfold hitv at K ⊢
  go_enter Tryz.func44, Tryz.ntmps44
  go_wp2_with fail
  refine K.mono ?_
  clear K
  rintro e w1 ⟨a, c, rfl, ho, hE⟩
  have HF : Hid (AsPost w (fr L) (.returned (.slice a (fr L).length c)) w1) := ⟨a, c, rfl, ho, hE⟩
  generalize fr L = LL at *
  clear ho hE
  go_wp2_with fail
  go_ret
  exact HF.out
end Go.Proofs.YtjbbomokgpoilaaGreatDoor

/-
  View of a memory; no statement is proved here.
-/
namespace Go.Proofs.YtjbbomokgpoilaaGreatDoor
open Go.RowKit Go.Shelf
attribute [local go_sem] Oper.semAt_some

theorem objs_few : ∀ (L : List Spn) (P b : Nat), L.Pairwise (fun x y => x.st + x.n ≤ y.st) → (∀ x ∈ L, x.Ok ∧ b ≤ x.st ∧ x.st + x.n ≤ P) → b ≤ P → (objs L).length + 32 * b ≤ 32 * P
  | [], P, b, _, _, h => by simp [objs]; omega
  | x :: L, P, b, hp, hm, h => by
    obtain ⟨h1, h2⟩ := List.pairwise_cons.1 hp
    obtain ⟨hk, hb, hP⟩ := hm x (by simp)
    have ih := objs_few L P (x.st + x.n) h2 (fun y hy => ⟨(hm y (by simp [hy])).1, h1 y hy, (hm y (by simp [hy])).2.2⟩) hP
    have hl := sobs_len x x.S.length
    have hf := hk.fit
    have h8 : x.S.length * 8 ≤ x.S.length * x.rm := Nat.mul_le_mul_left _ hk.rm1
    simp only [objs, List.flatMap_cons, List.length_append] at ih ⊢
    omega
theorem Hv.few {H : Hs} (h : Hv H) : (objs H.sp).length ≤ 32768 := by
  have := objs_few H.sp H.P 0 h.sorted (fun x hx => ⟨h.ok x hx, Nat.zero_le _, h.le hx⟩) (Nat.zero_le _)
  have := h.P1
  omega
theorem Hm.spit {w : World} {p ox : Nat} {T : TypeId} {cs : Array Value} {F : Nat → Prop} {H : Hs} {ag og : Nat} {V : Value} {sb : Nat → Nat × Nat} {O : List (Option Nat)} (h : Hm w p ox T cs F H ag og V sb O) : SpIt w (some ⟨p, ox, none⟩) H sb (fun Bn => Kb Bn p og H sb) := by
  refine ⟨fun W Bn hE hBn hb => spans_stops Fence.wide 7 trivial rfl (by omega) Bn p og H sb O W ((h.keep0 hE).it hb), fun Bn b hb => ?_⟩
  simp only [Kb, List.mem_cons, List.mem_map] at hb
  rcases hb with rfl | rfl | rfl | ⟨x, hx, rfl⟩
  · exact .inl rfl
  · exact .inr h.pt
  · exact .inr (lt_of_heap h.owners)
  · exact .inr (lt_of_heap (h.spans x hx).box)

/-! ### what View tells -/

/-- The tag of an object, and what Info tells in a sound memory. -/
def tagM (M : Ms) (a : Int) : Int := match fnd M.H a with
  | some (k, j) => (slotAt M.H k j).2
  | none => 0
theorem fndM_ob {M : Ms} {a : Int} {o : Mo} (h : fndM M a = some o) : M.ob a = some o := by
  unfold fndM at h
  split at h
  · next o' ho' =>
    split at h
    · cases h; exact ho'
    · cases h
  · cases h
theorem Jd.info {M : Ms} {D : List Int} (h : Jd M D) {a : Int} {o : Mo} (ho : fndM M a = some o) : infV M.H a (fnd M.H a) = .tuple #[obV a (8 * o.sl.length) (tagM M a), .int .i64 0] ∧ 1 ≤ o.sl.length ∧ o.sl.length ≤ 8192 := by
  have hob := fndM_ob ho
  obtain ⟨t3, q3⟩ := h.o3 a o hob
  obtain ⟨k3, j3, g1, g2, g3⟩ := q3.found h.hv
  obtain ⟨ps, h1, h2, h3, _⟩ := h.sl a o hob
  have hl : o.sl.length = ps.length := by rw [h1, slotsF_len]
  refine ⟨?_, by omega, by omega⟩
  unfold tagM
  rw [g1]
  unfold infV
  simp only
  rw [if_pos g2, g3]

/-- An object of a view: its address, its size, its tag, and what it names. -/
structure Vo where
  a : Int
  s : Int
  t : Int
  r : List Int
def voM (M : Ms) (x : Ob) : Option Vo := match fndM M x.1 with
  | none => none
  | some o => some ⟨x.1, 8 * o.sl.length, tagM M x.1, refsM M o.nd⟩
def vosM (M : Ms) (L : List Ob) : List Vo := L.filterMap (voM M)
theorem vosM_snoc (M : Ms) (L : List Ob) (x : Ob) : vosM M (L ++ [x]) = vosM M L ++ match voM M x with
  | none => []
  | some y => [y] := by
  unfold vosM
  rw [List.filterMap_append]
  congr 1
  cases h : voM M x <;> simp [h]
theorem vosM_len (M : Ms) (L : List Ob) : (vosM M L).length ≤ L.length := List.length_filterMap_le _ _
/-- The cells of an object, and where the list of its names lies. -/
abbrev Vq := Vo × Option Addr × Nat
def vqs (q : Vq) : Value := .slice q.2.1 q.1.r.length q.2.2
def voc (q : Vq) : List Value := [.int .i64 q.1.a, .int .i64 q.1.s, .int .i64 q.1.t, vqs q]
/-- A list of objects in a row of its own, their lists of names likewise. -/
def Vos (w : World) (b : Nat) (v : Value) (L : List Vo) : Prop := ∃ A : List Vq, A.map Prod.fst = L ∧ w.ownsRow b 34 4 v A.length (A.flatMap voc) ∧ ∀ q ∈ A, w.ownsRow b 3 1 (vqs q) q.1.r.length (lI q.1.r)
theorem Vos.nil (w : World) (b : Nat) : Vos w b (.slice none 0 0) [] := ⟨[], rfl, own_nil _ _ _ _, by simp⟩
theorem own_ty {w : World} {b g : Nat} {e : TypeId} {s n : Nat} {v : Value} {xs : List Value} (h : w.ownsRow b e s v n xs) (hg : v.ownBlock = some g) : ∃ c, w.heap[g]? = some (.cells c e (0, 0)) := by
  rcases h.2 with ⟨h0, _⟩ | ⟨g', cap, cur, h0, _, hc, _⟩
  · rw [h0] at hg; simp [Value.ownBlock] at hg
  · rw [h0] at hg; simp [Value.ownBlock] at hg; subst hg; exact ⟨_, hc⟩
theorem Vos.keep {w w' : World} {b : Nat} {v : Value} {L : List Vo} {S : List Nat} (h : Vos w b v L) (e : Ext S w w') (hS : ∀ k ∈ S, ∀ c, w.heap[k]? ≠ some (.cells c 34 (0, 0)) ∧ w.heap[k]? ≠ some (.cells c 3 (0, 0))) : Vos w' b v L := by
  obtain ⟨A, h1, h2, h3⟩ := h
  refine ⟨A, h1, own_keep h2 e (fun k hk hv => ?_), fun q hq => own_keep (h3 q hq) e (fun k hk hv => ?_)⟩
  · obtain ⟨c, hc⟩ := own_ty h2 hv
    exact (hS k hk c).1 hc
  · obtain ⟨c, hc⟩ := own_ty (h3 q hq) hv
    exact (hS k hk c).2 hc
theorem Vos.keep0 {w w' : World} {b : Nat} {v : Value} {L : List Vo} (h : Vos w b v L) (e : Ext [] w w') : Vos w' b v L := h.keep e (by simp)

theorem Vos.base {w : World} {b b' : Nat} {v : Value} {L : List Vo} (h : Vos w b v L) (hb : b' ≤ b) : Vos w b' v L := by
  obtain ⟨A, h1, h2, h3⟩ := h
  exact ⟨A, h1, own_base h2 hb, fun q hq => own_base (h3 q hq) hb⟩
theorem ext5 (W : World) (z : Nat) (v0 v1 v2 v3 v4 : Value) : Ext [z] W (((((W.setCell ⟨z, 0, none⟩ v0).setCell ⟨z, 1, none⟩ v1).setCell ⟨z, 2, none⟩ v2).setCell ⟨z, 3, none⟩ v3).setCell ⟨z, 4, none⟩ v4) :=
  ((((Ext.setCell [z] W _ _ (by simp)).trans (Ext.setCell [z] _ _ _ (by simp))).trans (Ext.setCell [z] _ _ _ (by simp))).trans (Ext.setCell [z] _ _ _ (by simp))).trans (Ext.setCell [z] _ _ _ (by simp))
set_option maxHeartbeats 4000000 in
theorem row5 {W : World} {z : Nat} {c0 : Array Value} (hz : W.heap[z]? = some (.cells c0 40 (0, 0))) (h0 : c0.size = 5) (v0 v1 v2 v3 v4 : Value) :
    (((((W.setCell ⟨z, 0, none⟩ v0).setCell ⟨z, 1, none⟩ v1).setCell ⟨z, 2, none⟩ v2).setCell ⟨z, 3, none⟩ v3).setCell ⟨z, 4, none⟩ v4).heap[z]? = some (.cells #[v0, v1, v2, v3, v4] 40 (0, 0)) := by
  rw [heap_setCell_same _ z 4 _ _ _ (heap_setCell_same _ z 3 _ _ _ (heap_setCell_same _ z 2 _ _ _ (heap_setCell_same _ z 1 _ _ _ (heap_setCell_same _ z 0 _ _ _ hz))))]
  congr 2
  apply Array.ext (by simpa using h0)
  intro i h1 h2
  rcases i with _ | _ | _ | _ | _ | i
  · simp [h0]
  · simp [h0]
  · simp [h0]
  · simp [h0]
  · simp
  · simp at h2; omega
theorem load40v {w : World} {g : Nat} {v0 v1 v2 v3 v4 : Value} (h : w.heap[g]? = some (.cells #[v0, v1, v2, v3, v4] 40 (0, 0))) : (loadVar 40 ⟨g, 0, none⟩).run Tryz.prog w = .ok (.agg #[v0, v1, v2, v3, v4]) w := by
  have c0 : w.cell? ⟨g, 0, none⟩ = some v0 := by rw [cell_of_row _ _ _ _ _ _ h]; rfl
  have c1 : w.cell? ⟨g, 1, none⟩ = some v1 := by rw [cell_of_row _ _ _ _ _ _ h]; rfl
  have c2 : w.cell? ⟨g, 2, none⟩ = some v2 := by rw [cell_of_row _ _ _ _ _ _ h]; rfl
  have c3 : w.cell? ⟨g, 3, none⟩ = some v3 := by rw [cell_of_row _ _ _ _ _ _ h]; rfl
  have c4 : w.cell? ⟨g, 4, none⟩ = some v4 := by rw [cell_of_row _ _ _ _ _ _ h]; rfl
  simp [go_sem, c0, c1, c2, c3, c4]
/-- View's own variable. -/
def Vbx (W : World) (z : Nat) (v f r : Value) (ph cy : Int) : Prop := W.heap[z]? = some (.cells #[v, f, r, .int .i64 ph, .int .i64 cy] 40 (0, 0))
set_option maxHeartbeats 4000000 in
theorem vmid_of {U W : World} {z : Nat} {c0 : Array Value} {fa : Option Addr} {fc n : Nat} {xs : List Value} {ph cy : Int} (hz : W.heap[z]? = some (.cells c0 40 (0, 0))) (h0 : c0.size = 5) (hE : Ext [] U W) (hzU : U.heap.size ≤ z) (ho : W.ownsRow U.heap.size 98 3 (.slice fa n fc) n xs) :
    Vbx (((((W.setCell ⟨z, 0, none⟩ (.slice none 0 0)).setCell ⟨z, 1, none⟩ (.slice fa n fc)).setCell ⟨z, 2, none⟩ (.slice none 0 0)).setCell ⟨z, 3, none⟩ (.int .i64 ph)).setCell ⟨z, 4, none⟩ (.int .i64 cy)) z (.slice none 0 0) (.slice fa n fc) (.slice none 0 0) ph cy ∧
    (((((W.setCell ⟨z, 0, none⟩ (.slice none 0 0)).setCell ⟨z, 1, none⟩ (.slice fa n fc)).setCell ⟨z, 2, none⟩ (.slice none 0 0)).setCell ⟨z, 3, none⟩ (.int .i64 ph)).setCell ⟨z, 4, none⟩ (.int .i64 cy)).ownsRow U.heap.size 98 3 (.slice fa n fc) n xs ∧
    Ext [] U (((((W.setCell ⟨z, 0, none⟩ (.slice none 0 0)).setCell ⟨z, 1, none⟩ (.slice fa n fc)).setCell ⟨z, 2, none⟩ (.slice none 0 0)).setCell ⟨z, 3, none⟩ (.int .i64 ph)).setCell ⟨z, 4, none⟩ (.int .i64 cy)) ∧ U.heap.size ≤ z := by
  have hx : Ext [z] W (((((W.setCell ⟨z, 0, none⟩ (.slice none 0 0)).setCell ⟨z, 1, none⟩ (.slice fa n fc)).setCell ⟨z, 2, none⟩ (.slice none 0 0)).setCell ⟨z, 3, none⟩ (.int .i64 ph)).setCell ⟨z, 4, none⟩ (.int .i64 cy)) :=
    ((((Ext.setCell [z] W _ _ (by simp)).trans (Ext.setCell [z] _ _ _ (by simp))).trans (Ext.setCell [z] _ _ _ (by simp))).trans (Ext.setCell [z] _ _ _ (by simp))).trans (Ext.setCell [z] _ _ _ (by simp))
  refine ⟨?_, own_keep ho hx (fun k hk hv => ?_), hE.on hx (by simp; omega), hzU⟩
  · unfold Vbx
    rw [heap_setCell_same _ z 4 _ _ _ (heap_setCell_same _ z 3 _ _ _ (heap_setCell_same _ z 2 _ _ _ (heap_setCell_same _ z 1 _ _ _ (heap_setCell_same _ z 0 _ _ _ hz))))]
    congr 2
    apply Array.ext (by simpa using h0)
    intro i h1 h2
    rcases i with _ | _ | _ | _ | _ | i
    · simp [h0]
    · simp [h0]
    · simp [h0]
    · simp [h0]
    · simp
    · simp at h2; omega
  · simp only [List.mem_singleton] at hk
    subst hk
    obtain ⟨c, hc⟩ := own_ty ho hv
    rw [hz] at hc
    simp at hc
theorem keep_five {w1 W : World} {z : Nat} {a : Addr} {v : Value} (hE : Ext [] w1 W) (hz : w1.heap.size ≤ z) (hc : w1.cell? a = some v) (v0 v1 v2 v3 v4 : Value) :
    (((((W.setCell ⟨z, 0, none⟩ v0).setCell ⟨z, 1, none⟩ v1).setCell ⟨z, 2, none⟩ v2).setCell ⟨z, 3, none⟩ v3).setCell ⟨z, 4, none⟩ v4).cell? a = some v := by
  have hx : Ext [z] W (((((W.setCell ⟨z, 0, none⟩ v0).setCell ⟨z, 1, none⟩ v1).setCell ⟨z, 2, none⟩ v2).setCell ⟨z, 3, none⟩ v3).setCell ⟨z, 4, none⟩ v4) :=
    ((((Ext.setCell [z] W _ _ (by simp)).trans (Ext.setCell [z] _ _ _ (by simp))).trans (Ext.setCell [z] _ _ _ (by simp))).trans (Ext.setCell [z] _ _ _ (by simp))).trans (Ext.setCell [z] _ _ _ (by simp))
  have := block_lt_of_cell hc
  exact hx.cell (hE.cell hc (by simp)) (by simp; omega)
theorem vnew_of {U W : World} {fa : Option Addr} {fc n : Nat} {xs : List Value} {ph cy : Int} (hE : Ext [] U W) (hz : U.heap.size ≤ W.heap.size) (ho : W.ownsRow U.heap.size 98 3 (.slice fa n fc) n xs) :
    Vbx (W.alloc (.cells #[.slice none 0 0, .slice fa n fc, .slice none 0 0, .int .i64 ph, .int .i64 cy] 40)) W.heap.size (.slice none 0 0) (.slice fa n fc) (.slice none 0 0) ph cy ∧ (W.alloc (.cells #[.slice none 0 0, .slice fa n fc, .slice none 0 0, .int .i64 ph, .int .i64 cy] 40)).ownsRow U.heap.size 98 3 (.slice fa n fc) n xs ∧ Ext [] U (W.alloc (.cells #[.slice none 0 0, .slice fa n fc, .slice none 0 0, .int .i64 ph, .int .i64 cy] 40)) ∧ U.heap.size ≤ W.heap.size :=
  ⟨heap_alloc_new _ _, own_keep0 ho (Ext.alloc [] _ _), hE.trans (Ext.alloc [] _ _), hz⟩
theorem wpIn_out {n : Nat} {P : Program} {C : Code} {Q : Exit → Act → World → Prop} {a : Act} {w : World} (R : Act → World → Prop) (h : C.wp P (fun e a2 w2 => e = Exit.normal ∧ R a2 w2) a w) (hq : ∀ a2 w2, R a2 w2 → Q .normal a2 w2) : C.wpIn Fence.wide n P Q a w :=
  Code.wpIn_mono (fun e a2 w2 ⟨h1, h2⟩ => by subst h1; exact hq _ _ h2) (wpIn_wide.2 h)
theorem Ext.celleq {u w : World} (h : Ext [] u w) : ∀ a : Addr, (u.cell? a).isSome = true → w.cell? a = u.cell? a := fun a ha => by
  obtain ⟨v, hv⟩ := Option.isSome_iff_exists.1 ha
  rw [hv]
  exact h.cell hv (by simp)
theorem Ext.frzeq {u w : World} (h : Ext [] u w) : ∀ a : Addr, (u.cell? a).isSome = true → w.frozen? a = u.frozen? a := fun a ha => by
  obtain ⟨v, hv⟩ := Option.isSome_iff_exists.1 ha
  have := h.block a.block (block_lt_of_cell hv) (by simp)
  unfold World.frozen?
  rw [this]


/-- Objects at addresses of 64 bits. -/
abbrev Oz := { x : Ob // I64 x.1 }
theorem ozs (L : List Spn) (h : ∀ x : Ob, x ∈ objs L → I64 x.1) : ∃ OL : List Oz, OL.map Subtype.val = objs L := by
  refine ⟨(objs L).attach.map (fun x => ⟨x.1, h x.1 x.2⟩), ?_⟩
  rw [List.map_map]
  have : (Subtype.val ∘ fun x : { x // x ∈ objs L } => (⟨x.1, h x.1 x.2⟩ : Oz)) = Subtype.val := rfl
  rw [this, List.attach_map_subtype_val]
theorem sobs_adr (x : Spn) : ∀ (i : Nat) (o : Ob), o ∈ sobs x i → ∃ j, j < i ∧ o.1 = ((adr x j : Nat) : Int)
  | 0, o, h => by simp [sobs] at h
  | i + 1, o, h => by
    rw [sobs] at h
    rcases List.mem_append.1 h with q | q
    · obtain ⟨j, h1, h2⟩ := sobs_adr x i o q
      exact ⟨j, by omega, h2⟩
    · split at q
      · simp only [List.mem_singleton] at q
        exact ⟨i, by omega, by rw [q]⟩
      · cases q
theorem obj_i64 {H : Hs} (h : Hv H) (x : Ob) (hx : x ∈ objs H.sp) : I64 x.1 := by
  unfold objs at hx
  obtain ⟨y, hy, hx⟩ := List.mem_flatMap.1 hx
  obtain ⟨j, hj, e⟩ := sobs_adr y _ _ hx
  have h1 := (h.ok y hy).slot hj
  have h2 := h.le hy
  have h3 := h.P1
  rw [e]
  unfold I64 adr
  have : (j + 1) * y.rm = j * y.rm + y.rm := by rw [Nat.add_mul, Nat.one_mul]
  omega
set_option maxRecDepth 100000 in
set_option maxHeartbeats 2000000 in
theorem valsF_in {α : Type} (F : Fence) (n : Nat) (h34 : F.fn 112) (hro : F.round = none) (hn : 1 ≤ n) (l Bn : Nat) (v : Value) (f : α → Ob) (L : List α) (hlen : L.length ≤ 1000000000) (J Jx : List α → World → Prop) (B0 : Nat) (hJ : AbidesFrom B0 J)
    (hY : ∀ pre x W, J pre W → pre.length < L.length → YieldAt F (n - 1) Tryz.prog l #[.agg #[.int .i64 (f x).1, .int .i64 (f x).2.1, .int .i64 (f x).2.2, .slice none 0 0]] W fun e W' =>
      (e = .returned (.bool true) ∧ J (pre ++ [x]) W' ∧ Kl Bn v W W') ∨ (e = .returned (.bool false) ∧ Jx (pre ++ [x]) W'))
    (W : World) (hBn : Boxed W Bn 37 v) (hL : Obl W v (L.map f)) (h0 : J [] W) :
    CallsIn F n Tryz.prog 112 #[.func (.yield l) #[] #[], .pointer (some ⟨Bn, 0, none⟩)] W fun e W' => (∃ v, e = .returned v) ∧
      ((∃ ys, ys = L ∧ J ys W') ∨ (∃ pre, pre <+: L ∧ Jx pre W')) := by
  obtain ⟨a, c, hvv, _⟩ := own_slice hL
  rw [List.length_map] at hvv
  subst hvv
  have hc := hBn.cell
  refine callsIn_of_wp Tryz.func112 rfl h34 ?_ hro
  simp only [Tryz.ntmps112, List.size_toArray, List.length_cons, List.length_nil, Nat.reduceAdd, Nat.reduceSub, Array.replicate_succ, Array.replicate_zero, List.push_toArray, List.append_toArray, List.nil_append, List.cons_append]
  have HL := hid hL
  have HB := hid hBn
  clear hL hBn
  gi_wp2
  gi_loopw [7] (fun q wr => ∃ k : Nat, q = .int .i64 k ∧ k ≤ L.length ∧ Obl wr (.slice a L.length c) (L.map f) ∧ Boxed wr Bn 37 (.slice a L.length c) ∧ J (L.take k) wr) (fun q _ => (L.length - (intOf q)).toNat)
  case atStart => exact ⟨0, rfl, Nat.zero_le _, HL.out, HB.out, by simpa using h0⟩
  case round =>
    clear HL HB
    obtain ⟨k, rfl, hk, hL, hB, hJk⟩ := hrel
    have HL := hid hL
    have HB := hid hB
    have HJk := hid hJk
    clear hB hJk
    by_cases hlt : k < L.length
    · obtain ⟨g, c', hv, hcs⟩ := obl_at hL (k := k) (by simpa using hlt)
      simp only [Value.slice.injEq, List.length_map, true_and] at hv
      obtain ⟨rfl, rfl⟩ := hv
      rw [List.getElem_map] at hcs
      have HM : Hid (L.take k ++ [L[k]] = L.take (k + 1)) := by
        show _ = _
        rw [List.take_add_one, List.getElem?_eq_getElem hlt]; rfl
      obtain ⟨y, hy⟩ : ∃ y, y = L[k] := ⟨_, rfl⟩
      rw [← hy] at hcs HM
      obtain ⟨x, hx⟩ : ∃ x, x = f y := ⟨_, rfl⟩
      have hY1 := hY (L.take k) y
      rw [← hx] at hcs hY1
      clear hx hL hy
      have hJ2 : J (L.take k) (wr.alloc (.cells #[.int .i64 x.1, .int .i64 x.2.1, .int .i64 x.2.2, .slice none 0 0] 34)) := hJ _ _ _ none HJk.out (World.grownBy_alloc _ _ _) (by simp)
      obtain ⟨fn, tmps, assign, body, hy, hR⟩ := hY1 _ hJ2 (by simp; omega)
      clear hJ2 hY1
      gi_wp2
      refine hR.mono ?_
      rintro e W3 (⟨rfl, hJ3, hk3⟩ | ⟨rfl, hJx3⟩)
      · have hE := Ext.alloc [] wr (.cells #[.int .i64 x.1, .int .i64 x.2.1, .int .i64 x.2.2, .slice none 0 0] 34)
        have HL3 := hid (kl_own hk3 (own_keep0 HL.out hE))
        have HB3 := hid (hk3.boxed (HB.out.alloc _))
        clear hE
        gi_wp2
        go_roundw
        case rel => exact ⟨k + 1, by go_num, by omega, HL3.out, HB3.out, by rw [← HM.out]; exact hJ3⟩
        case measure => simp [intOf]; omega
      · gi_wp2
        refine bodyPost_ret (results_none rfl _ _ _) rfl ?_
        exact ⟨⟨_, rfl⟩, .inr ⟨_, by rw [HM.out]; exact List.take_prefix _ _, hJx3⟩⟩
    · obtain rfl : k = L.length := by omega
      gi_wp2
      go_end0
      exact ⟨⟨_, rfl⟩, .inl ⟨L, rfl, by have := HJk.out; rwa [List.take_length] at this⟩⟩
theorem valsF_stops {α : Type} (F : Fence) (n : Nat) (h34 : F.fn 112) (hro : F.round = none) (hn : 1 ≤ n) (Bn : Nat) (v : Value) (f : α → Ob) (L : List α) (hlen : L.length ≤ 1000000000) (w : World) (hB : Boxed w Bn 37 v) (hL : Obl w v (L.map f)) :
    SeqStopsK F n Tryz.prog 112 #[.pointer (some ⟨Bn, 0, none⟩)] (fun x : α => #[Value.agg #[.int .i64 (f x).1, .int .i64 (f x).2.1, .int .i64 (f x).2.2, .slice none 0 0]]) (Kl Bn v) (fun ys => ys = L) (fun pre => pre <+: L) L.length w := fun l J Jx W hW hJ _ hY h0 =>
  valsF_in F n h34 hro hn l Bn v f L hlen J Jx _ hJ hY W ((below_ext hW).keep hB (by simp)) (own_keep0 hL (below_ext hW)) h0
/-- The state of View's loop over all objects. -/
def Vst (z : Nat) (fv : Value) (ph cy : Int) (M : Ms) (w3 : World) (pre : List Ob) (W : World) : Prop := ∃ v, Vbx W z v fv (.slice none 0 0) ph cy ∧ Vos W w3.heap.size v (vosM M pre) ∧ Ext [z] w3 W
theorem vst_own {z : Nat} {fv : Value} {ph cy : Int} {M : Ms} {w3 : World} : OwnFrom w3.heap.size (Vst z fv ph cy M w3) := fun pre X Y row ⟨v, hb, hv, hx⟩ hg hr => by
  have hx2 := Ext.grown (S := row.toList) hg (fun k hk => by simp [hk])
  have hrow : ∀ k ∈ row.toList, ∀ c t, X.heap[k]? ≠ some (.cells c t (0, 0)) := fun k hk c t hc => by
    rw [Option.mem_toList] at hk
    obtain ⟨_, o, ho, hn⟩ := hr k hk
    rw [hc] at ho
    cases ho
    cases hn
  exact ⟨v, hx2.keep hb (fun hm => hrow z hm _ _ hb), hv.keep hx2 (fun k hk c => ⟨hrow k hk c 34, hrow k hk c 3⟩), ownFrom_ext (β := List Ob) pre X Y row hx hg hr⟩
theorem wpListIn_append_run {F : Fence} {n : Nat} {P : Program} {w w' : World} {ops : Array Oper} {rest : List Oper} {o : Oper} {a : Act} {Q : Exit → Act → World → Prop} (hgd : o.guard = none) (s x : Operand) (t : TypeId)
    (ho : o.op = .call { callee := .builtin .append, args := #[s, x], argTypes := #[t, t] }) (vs vx v' : Value) (hs : a.eval s = vs) (hx : a.eval x = vx)
    (hr : (Builtin.append_ #[t, t] o.type #[vs, vx]).run P w = .ok v' w') (h : wpListIn F n P ops Q rest (a.put o.dst v') w') : wpListIn F n P ops Q (o :: rest) a w := by
  refine wpListIn_plain hgd fun K hK => ?_
  unfold Oper.wpIn
  refine ⟨by simp [Oper.about, ho, resolve, Target.leads, Sem.run_pure], ?_⟩
  rw [Oper.semAt_plain F _ _ (by rw [ho]; intro c hc'; cases hc')]
  simp [execOp, ho, resolve, invoke, builtin, hs, hx, hr, Result.andThen]
  exact hK _ _ h
def vroots (R : List Int) : List Int := R.filter (fun x => x != 0)
theorem vroots_succ (R : List Int) {k : Nat} (h : k < R.length) : vroots (R.take (k + 1)) = vroots (R.take k) ++ if R.getD k 0 = 0 then [] else [R.getD k 0] := by
  unfold vroots
  rw [List.take_add_one, List.filter_append, List.getElem?_eq_getElem h]
  have hg : R.getD k 0 = R[k] := by simp [List.getD, h]
  rw [hg]
  by_cases e : R[k] = 0 <;> simp [e]
theorem vroots_len (R : List Int) : (vroots R).length ≤ R.length := List.length_filter_le _ _
/-- What View answers. -/
def ViPost (w : World) (L : List Vo) (F : List Rn) (R : List Int) (ph cy : Int) (e : Ending) (w' : World) : Prop :=
  ∃ v fa fc ra rc, e = .returned (.tuple #[.agg #[v, .slice fa F.length fc, .slice ra R.length rc, .int .i64 ph, .int .i64 cy], .int .i64 0]) ∧ Vos w' w.heap.size v L ∧ w'.ownsRow w.heap.size 98 3 (.slice fa F.length fc) F.length (F.flatMap Rn.cells) ∧ w'.ownsRow w.heap.size 3 1 (.slice ra R.length rc) R.length (lI R) ∧ Ext [] w w'

section
variable {w : World} {p : Nat} {M : Ms} {Z : Nat → Prop}

theorem mholes_any (h : Mw w p M Z) : Calls Tryz.prog 45 #[.pointer (some ⟨p, 7, none⟩)] w (HlPost w M.H.R) := by
  obtain ⟨X, cs, cl, bo, ba, fo, h1, h2⟩ := h
  obtain ⟨ag, og, V, sb, O, h3⟩ := h1.h
  exact holes_any p V M.H.R w h3.rs (by have := h3.ok.inv.len; have := h3.ok.P1; omega)
theorem mobjects_any (h : Mw w p M Z) : Calls Tryz.prog 46 #[.pointer (some ⟨p, 7, none⟩)] w (ObPost w (objs M.H.sp)) := by
  obtain ⟨X, cs, cl, bo, ba, fo, h1, h2⟩ := h
  obtain ⟨ag, og, V, sb, O, h3⟩ := h1.h
  exact objects_of _ M.H sb _ w h3.ok h3.spans h3.spit

set_option maxRecDepth 100000 in
set_option maxHeartbeats 8000000 in
theorem mview_any (h : Mw w p M Z) {b : Nat} (hk : Mk M b) (hj : Jd M []) (ra : Option Addr) (rn rc : Nat) (R : List Int) (hR : Co.Is w ra R) (hrn : R.length = rn) (hrb : rn ≤ 17592186044415) (hi : ∀ x ∈ R, I64 x) {l : List Int} (hl : nodesM M R = some l) :
    Calls Tryz.prog 13 #[.pointer (some ⟨p, 0, none⟩), .slice ra rn rc] w (ViPost w (vosM M (objs M.H.sp)) (fr M.H.R) (vroots R) M.G.ph M.G.cy) := by
  refine (callsIn_wide (n := 16)).1 ?_
  refine callsIn_of_wp_marks Tryz.func13 rfl trivial ?_ rfl
  simp only [Tryz.ntmps13, List.size_toArray, List.length_cons, List.length_nil, Nat.reduceAdd, Nat.reduceSub, Array.replicate_succ, Array.replicate_zero, List.push_toArray, List.append_toArray, List.nil_append, List.cons_append]
  have hobI : ∀ x : Ob, x ∈ objs M.H.sp → I64 x.1 := obj_i64 hj.hv
  have KN := fun u (hu : Ext [] w u) => mnodes_w (h.keep0 hu) hk ra rn rc R (hR.keep0 (co_ext hu)) hrn hrb hi
  rw [hl] at KN
  have hfew := hj.hv.few
  have hrl := hj.hv.inv.len
  have hP := hj.hv.P1
  have HM := hid h
  have HK := hid hk
  have HJ := hid hj
  have HR := hid hR
  have Hi := hid hi
  have HFew := hid hfew
  clear h hk hj hR hi hl hfew
  obtain ⟨U0, hU0⟩ : ∃ U0, (w.alloc (.cells #[.pointer (some ⟨p, 0, none⟩)] 22)).alloc (.cells #[.slice none 0 0, .slice none 0 0, .slice none 0 0, .int .i64 0, .int .i64 0] 40) = U0 := ⟨_, rfl⟩
  have hE0 : Ext [] w U0 := by rw [← hU0]; exact (Ext.alloc [] _ _).trans (Ext.alloc [] _ _)
  have bm : Boxed U0 w.heap.size 22 (.pointer (some ⟨p, 0, none⟩)) := by rw [← hU0]; exact (Boxed.new w 22 _).alloc _
  have br : U0.heap[w.heap.size + 1]? = some (.cells #[.slice none 0 0, .slice none 0 0, .slice none 0 0, .int .i64 0, .int .i64 0] 40 (0, 0)) := by
    rw [← hU0]
    have := heap_alloc_new (w.alloc (.cells #[.pointer (some ⟨p, 0, none⟩)] 22)) (.cells #[.slice none 0 0, .slice none 0 0, .slice none 0 0, .int .i64 0, .int .i64 0] 40)
    simpa using this
  have KN1 := KN U0 hE0
  obtain ⟨zm, hzm⟩ : ∃ zm, w.heap.size = zm := ⟨_, rfl⟩
  rw [hzm] at bm br
  have cm := bm.cell
  have HU0 := hid hU0
  have HE0 := hid hE0
  have HBm := hid bm
  have HBr := hid br
  have HZm := hid hzm
  clear hU0 hE0 bm br KN hzm
  have KH : ∀ u, Ext [] U0 u → Calls Tryz.prog 45 #[.pointer (some ⟨p, 7, none⟩)] u (fun e w' => ∃ B Bn v, e = .returned (.func (.func 80) #[] #[.pointer (some ⟨B, 0, none⟩)]) ∧ Hid (Boxed w' B 100 (itv Bn) ∧ Boxed w' Bn 38 v ∧ Lst w' v M.H.R) ∧ Ext [] u w' ∧ (∀ a : Addr, (u.cell? a).isSome = true → w'.cell? a = u.cell? a) ∧ ∀ a : Addr, (u.cell? a).isSome = true → w'.frozen? a = u.frozen? a) := fun u hu => (mholes_any (HM.out.keep0 (HE0.out.trans hu))).mono (by
    rintro e w' ⟨B, Bn, v, rfl, h1, h2, h3, _, _, _, hE⟩
    exact ⟨B, Bn, v, rfl, ⟨h1, h2, h3⟩, hE, hE.celleq, hE.frzeq⟩)
  have KC : ∀ B Bn v w5, Hid (Boxed w5 B 100 (itv Bn) ∧ Boxed w5 Bn 38 v ∧ Lst w5 v M.H.R) → ∀ u, Ext [] w5 u → Calls Tryz.prog 44 #[.func (.func 80) #[] #[.pointer (some ⟨B, 0, none⟩)]] u (fun e w' => ∃ fa fc, e = .returned (.slice fa (fr M.H.R).length fc) ∧ Hid (w'.ownsRow u.heap.size 98 3 (.slice fa (fr M.H.R).length fc) (fr M.H.R).length ((fr M.H.R).flatMap Rn.cells)) ∧ Ext [] u w' ∧ (∀ a : Addr, (u.cell? a).isSome = true → w'.cell? a = u.cell? a) ∧ ∀ a : Addr, (u.cell? a).isSome = true → w'.frozen? a = u.frozen? a) := fun B Bn v w5 hf u hu => (collect_runs B Bn v M.H.R u (hu.keep hf.out.1 (by simp)) (hu.keep hf.out.2.1 (by simp)) (hf.out.2.2.keep0 hu) (by omega)).mono (by
    rintro e w' ⟨fa, fc, rfl, h1, hE⟩
    exact ⟨fa, fc, rfl, h1, hE, hE.celleq, hE.frzeq⟩)
  have KP : ∀ u, Ext [] U0 u → Calls Tryz.prog 19 #[.pointer (some ⟨p, 0, none⟩)] u (fun e w' => e = .returned (.int .i64 M.G.ph) ∧ w' = u) := fun u hu => phase_any (HM.out.keep0 (HE0.out.trans hu))
  have KY : ∀ u, Ext [] U0 u → Calls Tryz.prog 20 #[.pointer (some ⟨p, 0, none⟩)] u (fun e w' => e = .returned (.int .i64 M.G.cy) ∧ w' = u) := fun u hu => cycles_any (HM.out.keep0 (HE0.out.trans hu))
  have HKH := hid KH
  have HKC := hid KC
  have HKP := hid KP
  have HKY := hid KY
  clear KH KC KP KY hrl hP
  gi_wp2_with fail
  rw [HU0.out]
  refine ⟨trivial, (callsIn_wide.2 KN1).mono ?_⟩
  clear KN1
  rintro e w1 ⟨hE1, nv, rfl, _⟩
  have cm1 := hE1.cell cm (by simp)
  have HE1 := hid hE1
  clear hE1
  gi_wp2_with fail
  rw [HZm.out]
  have KH1 := fun u (hu : Ext [] w1 u) => HKH.out u (HE1.out.trans hu)
  have KP1 := fun u (hu : Ext [] w1 u) => HKP.out u (HE1.out.trans hu)
  have KY1 := fun u (hu : Ext [] w1 u) => HKY.out u (HE1.out.trans hu)
  have KC1 := HKC.out
  have HXS := hid (fr M.H.R).length.zero_le
  generalize hnf : (fr M.H.R).length = nf at *
  generalize hFc : (fr M.H.R).flatMap Rn.cells = FC at *
  obtain ⟨ph, hph⟩ : ∃ ph : Int, (M.G.ph : Int) = ph := ⟨_, rfl⟩
  obtain ⟨cy, hcy⟩ : ∃ cy : Int, (M.G.cy : Int) = cy := ⟨_, rfl⟩
  rw [hph] at KP1
  rw [hcy] at KY1
  have HPh := hid hph
  have HCy := hid hcy
  have Hnf := hid hnf
  have HFc := hid hFc
  clear hph hcy hnf hFc HKH HKP HKY HKC HXS
  refine wpIn_out (R := fun aa w2 => ∃ z fa fc B, aa = { tmps := #[.pointer (some ⟨p, 0, none⟩), .slice ra rn rc, .pointer (some ⟨zm, 0, none⟩), undef, .pointer (some ⟨zm + 1, 0, none⟩), .int .i64 0, nv, .int .i64 0, .pointer (some ⟨z, 0, none⟩), undef, undef, undef, undef, undef, .tuple #[nv, .int .i64 0], .pointer (some ⟨p, 0, none⟩), .slice ra rn rc, .tuple #[nv, .int .i64 0], nv, .int .i64 0, .int .i64 0, .bool false, undef, undef, .pointer (some ⟨p, 0, none⟩), .pointer (some ⟨p, 0, none⟩), .pointer (some ⟨p, 7, none⟩), .func (.func 80) #[] #[.pointer (some ⟨B, 0, none⟩)], .slice fa nf fc, .pointer (some ⟨p, 0, none⟩), .int .i64 ph, .pointer (some ⟨p, 0, none⟩), .int .i64 cy, .agg #[.slice none 0 0, .slice fa nf fc, .slice none 0 0, .int .i64 ph, .int .i64 cy], undef, undef, undef, undef, undef, undef, undef, undef, undef, undef, undef, undef, undef, undef, undef, undef, undef, undef, undef, undef, undef, undef, undef, undef, undef, undef, undef, undef, undef, undef, undef, undef, undef, undef, undef, undef], defers := [] } ∧ Vbx w2 z (.slice none 0 0) (.slice fa nf fc) (.slice none 0 0) ph cy ∧ w2.ownsRow w1.heap.size 98 3 (.slice fa nf fc) nf FC ∧ Ext [] w1 w2 ∧ w1.heap.size ≤ z) ?reg4 ?_
  case reg4 =>
    go_region_held3 (fun u => u.cell? ⟨zm, 0, none⟩ = some (.pointer (some ⟨p, 0, none⟩)))
      (first | exact Ext.cell (by (repeat (first | (with_reducible exact Ext.refl [] _) | (with_reducible exact Ext.drew [] _) | (with_reducible exact Ext.alloc [] _ _) | (with_reducible assumption) | (with_reducible refine Ext.trans ?_ (Ext.drew [] _)) | (with_reducible refine Ext.trans ?_ (Ext.alloc [] _ _)) | (with_reducible refine Ext.trans ?_ (by assumption)) | fail "no chain"))) cm1 (by simp) | exact keep_five (w1 := w1) (by (repeat (first | (with_reducible exact Ext.refl [] _) | (with_reducible exact Ext.drew [] _) | (with_reducible exact Ext.alloc [] _ _) | (with_reducible assumption) | (with_reducible refine Ext.trans ?_ (Ext.drew [] _)) | (with_reducible refine Ext.trans ?_ (Ext.alloc [] _ _)) | (with_reducible refine Ext.trans ?_ (by assumption)) | fail "no chain"))) (Ext.size (S := []) (by (repeat (first | (with_reducible exact Ext.refl [] _) | (with_reducible exact Ext.drew [] _) | (with_reducible exact Ext.alloc [] _ _) | (with_reducible assumption) | (with_reducible refine Ext.trans ?_ (Ext.drew [] _)) | (with_reducible refine Ext.trans ?_ (Ext.alloc [] _ _)) | (with_reducible refine Ext.trans ?_ (by assumption)) | fail "no chain")))) cm1 _ _ _ _ _ | go_keep)
      (first
        | (go_at_call 45; (with_reducible refine Calls.mono (KH1 _ ?_) ?_); (repeat (first | (with_reducible exact Ext.refl [] _) | (with_reducible exact Ext.drew [] _) | (with_reducible exact Ext.alloc [] _ _) | (with_reducible assumption) | (with_reducible refine Ext.trans ?_ (Ext.drew [] _)) | (with_reducible refine Ext.trans ?_ (Ext.alloc [] _ _)) | (with_reducible refine Ext.trans ?_ (by assumption)) | fail "no chain")); rintro e w5 ⟨B, Bn, v, rfl, HB5, hE5, ct5, ft5⟩)
        | (go_at_call 44; (with_reducible refine Calls.mono (KC1 _ _ _ _ HB5 _ ?_) ?_); (repeat (first | (with_reducible exact Ext.refl [] _) | (with_reducible exact Ext.drew [] _) | (with_reducible exact Ext.alloc [] _ _) | (with_reducible assumption) | (with_reducible refine Ext.trans ?_ (Ext.drew [] _)) | (with_reducible refine Ext.trans ?_ (Ext.alloc [] _ _)) | (with_reducible refine Ext.trans ?_ (by assumption)) | fail "no chain")); rintro e w6 ⟨fa, fc, rfl, HF6, hE6, ct6, ft6⟩)
        | (go_at_call 19; refine met (KP1 _ (by (repeat (first | (with_reducible exact Ext.refl [] _) | (with_reducible exact Ext.drew [] _) | (with_reducible exact Ext.alloc [] _ _) | (with_reducible assumption) | (with_reducible refine Ext.trans ?_ (Ext.drew [] _)) | (with_reducible refine Ext.trans ?_ (Ext.alloc [] _ _)) | (with_reducible refine Ext.trans ?_ (by assumption)) | fail "no chain")))) ?_)
        | (go_at_call 20; refine met (KY1 _ (by (repeat (first | (with_reducible exact Ext.refl [] _) | (with_reducible exact Ext.drew [] _) | (with_reducible exact Ext.alloc [] _ _) | (with_reducible assumption) | (with_reducible refine Ext.trans ?_ (Ext.drew [] _)) | (with_reducible refine Ext.trans ?_ (Ext.alloc [] _ _)) | (with_reducible refine Ext.trans ?_ (by assumption)) | fail "no chain")))) ?_)
        | fail "no arm")
    all_goals
      refine ⟨rfl, _, fa, fc, B, rfl, ?_⟩
      first
        | ((with_reducible refine vnew_of (U := w1) ?_ ?_ ?_); exact (by (repeat (first | (with_reducible exact Ext.refl [] _) | (with_reducible exact Ext.drew [] _) | (with_reducible exact Ext.alloc [] _ _) | (with_reducible assumption) | (with_reducible refine Ext.trans ?_ (Ext.drew [] _)) | (with_reducible refine Ext.trans ?_ (Ext.alloc [] _ _)) | (with_reducible refine Ext.trans ?_ (by assumption)) | fail "no chain"))); exact Ext.size (S := []) (by (repeat (first | (with_reducible exact Ext.refl [] _) | (with_reducible exact Ext.drew [] _) | (with_reducible exact Ext.alloc [] _ _) | (with_reducible assumption) | (with_reducible refine Ext.trans ?_ (Ext.drew [] _)) | (with_reducible refine Ext.trans ?_ (Ext.alloc [] _ _)) | (with_reducible refine Ext.trans ?_ (by assumption)) | fail "no chain"))); exact own_base (own_keep0 HF6.out (by (repeat (first | (with_reducible exact Ext.refl [] _) | (with_reducible exact Ext.drew [] _) | (with_reducible exact Ext.alloc [] _ _) | (with_reducible assumption) | (with_reducible refine Ext.trans ?_ (Ext.drew [] _)) | (with_reducible refine Ext.trans ?_ (Ext.alloc [] _ _)) | (with_reducible refine Ext.trans ?_ (by assumption)) | fail "no chain")))) (Ext.size (S := []) (by (repeat (first | (with_reducible exact Ext.refl [] _) | (with_reducible exact Ext.drew [] _) | (with_reducible exact Ext.alloc [] _ _) | (with_reducible assumption) | (with_reducible refine Ext.trans ?_ (Ext.drew [] _)) | (with_reducible refine Ext.trans ?_ (Ext.alloc [] _ _)) | (with_reducible refine Ext.trans ?_ (by assumption)) | fail "no chain")))))
        | ((with_reducible refine vmid_of (U := w1) (c0 := #[.slice none 0 0, .slice none 0 0, .slice none 0 0, .int .i64 0, .int .i64 0]) ?_ ?_ ?_ ?_ ?_); (first | exact heap_alloc_new _ _ | exact hE6.keep (heap_alloc_new _ _) (by simp) | exact hE6.keep (hE5.keep (heap_alloc_new _ _) (by simp)) (by simp)); rfl; exact (by (repeat (first | (with_reducible exact Ext.refl [] _) | (with_reducible exact Ext.drew [] _) | (with_reducible exact Ext.alloc [] _ _) | (with_reducible assumption) | (with_reducible refine Ext.trans ?_ (Ext.drew [] _)) | (with_reducible refine Ext.trans ?_ (Ext.alloc [] _ _)) | (with_reducible refine Ext.trans ?_ (by assumption)) | fail "no chain"))); exact Ext.size (S := []) (by (repeat (first | (with_reducible exact Ext.refl [] _) | (with_reducible exact Ext.drew [] _) | (with_reducible exact Ext.alloc [] _ _) | (with_reducible assumption) | (with_reducible refine Ext.trans ?_ (Ext.drew [] _)) | (with_reducible refine Ext.trans ?_ (Ext.alloc [] _ _)) | (with_reducible refine Ext.trans ?_ (by assumption)) | fail "no chain"))); exact own_base (own_keep0 HF6.out (by (repeat (first | (with_reducible exact Ext.refl [] _) | (with_reducible exact Ext.drew [] _) | (with_reducible exact Ext.alloc [] _ _) | (with_reducible assumption) | (with_reducible refine Ext.trans ?_ (Ext.drew [] _)) | (with_reducible refine Ext.trans ?_ (Ext.alloc [] _ _)) | (with_reducible refine Ext.trans ?_ (by assumption)) | fail "no chain")))) (Ext.size (S := []) (by (repeat (first | (with_reducible exact Ext.refl [] _) | (with_reducible exact Ext.drew [] _) | (with_reducible exact Ext.alloc [] _ _) | (with_reducible assumption) | (with_reducible refine Ext.trans ?_ (Ext.drew [] _)) | (with_reducible refine Ext.trans ?_ (Ext.alloc [] _ _)) | (with_reducible refine Ext.trans ?_ (by assumption)) | fail "no chain")))))
        | fail "no leaf"
  rintro a2 w2 ⟨z, fa, fc, B, rfl, hbx, hfo, hE2, hzw⟩
  have cm2 := hE2.cell cm1 (by simp)
  have HBx := hid hbx
  have HFo := hid hfo
  have HE2 := hid (HE1.out.trans hE2)
  have HZ2 : Hid (zm < w1.heap.size ∧ zm + 1 < w1.heap.size ∧ w1.heap.size ≤ z ∧ z < w2.heap.size) := ⟨Nat.lt_of_lt_of_le HBm.out.lt HE1.out.size, Nat.lt_of_lt_of_le (lt_of_heap HBr.out) HE1.out.size, hzw, lt_of_heap hbx⟩
  clear hbx hfo hE2 hzw KH1 KP1 KY1 KC1 HE1 cm1
  gi_wp2_with fail
  refine ⟨trivial, (callsIn_wide.2 (mobjects_any (HM.out.keep0 (HE0.out.trans HE2.out)))).mono ?_⟩
  rintro e w3 ⟨Bn, v3, rfl, hB3, hL3, hBn, hv3, hE3⟩
  have cm3 := hE3.cell cm2 (by simp)
  have hbx3 := hE3.keep HBx.out (by simp)
  have HFo3 := hid (own_keep0 HFo.out hE3)
  have HE3 := hid (HE2.out.trans hE3)
  have hB3l := Boxed.lt hB3
  have hv3l := fun g hg => (own_lt hL3 g hg).2
  have HZ3 : Hid (zm < w1.heap.size ∧ zm + 1 < w1.heap.size ∧ w1.heap.size ≤ z ∧ z < Bn ∧ z < w3.heap.size ∧ Bn < w3.heap.size ∧ ∀ g, v3.ownBlock = some g → z < g ∧ g < w3.heap.size) := ⟨HZ2.out.1, HZ2.out.2.1, HZ2.out.2.2.1, by have := HZ2.out.2.2.2; omega, by have := HZ2.out.2.2.2; have := hE3.size; omega, hB3l, fun g hg => ⟨by have := HZ2.out.2.2.2; have := hv3 g hg; omega, hv3l g hg⟩⟩
  clear hE3 cm2 HBx HFo HE2 HZ2 hBn hv3
  unfold ovit
  gi_wp2_with fail
  obtain ⟨OL, hOLm⟩ := ozs M.H.sp hobI
  have hOLl : OL.length = (objs M.H.sp).length := by rw [← hOLm, List.length_map]
  have st0 : Vst z (.slice fa nf fc) ph cy M w3 [] w3 := ⟨_, hbx3, Vos.nil _ _, Ext.refl _ _⟩
  have hov := HFew.out
  refine wpIn_rangeFunc_ownH rfl (by omega) (gf := 112) (lb := #[.pointer (some ⟨Bn, 0, none⟩)]) rfl trivial (enters_of Tryz.func112 (by kernel_rfl) rfl)
    (valsF_stops Fence.wide _ trivial rfl (by omega) Bn v3 Subtype.val OL (by omega) w3 hB3 (by rw [hOLm]; exact hL3)) klK_t (klK_b hB3l hv3l) (Below.refl _ _) (fun _ => rfl)
    (fun pre : List Oz => Vst z (.slice fa nf fc) ph cy M w3 (pre.map Subtype.val)) (fun _ _ _ => False) (fun pre X Y row hs hg hr => vst_own (pre.map Subtype.val) X Y row hs hg hr) (fun _ _ _ _ _ hs _ _ => hs) st0
    (fun (x : Oz) a' W => ∃ Bx, W.heap[Bx]? = some (.cells #[.int .i64 x.val.1, .int .i64 x.val.2.1, .int .i64 x.val.2.2, .slice none 0 0] 34 (0, 0)) ∧ w3.heap.size ≤ Bx ∧ a' = { tmps := #[.pointer (some ⟨p, 0, none⟩), .slice ra rn rc, .pointer (some ⟨zm, 0, none⟩), undef, .pointer (some ⟨zm + 1, 0, none⟩), .int .i64 0, nv, .int .i64 0, .pointer (some ⟨z, 0, none⟩), .pointer (some ⟨Bx, 0, none⟩), undef, undef, undef, undef, .tuple #[nv, .int .i64 0], .pointer (some ⟨p, 0, none⟩), .slice ra rn rc, .tuple #[nv, .int .i64 0], nv, .int .i64 0, .int .i64 0, .bool false, undef, undef, .pointer (some ⟨p, 0, none⟩), .pointer (some ⟨p, 0, none⟩), .pointer (some ⟨p, 7, none⟩), .func (.func 80) #[] #[.pointer (some ⟨B, 0, none⟩)], .slice fa nf fc, .pointer (some ⟨p, 0, none⟩), .int .i64 ph, .pointer (some ⟨p, 0, none⟩), .int .i64 cy, .agg #[.slice none 0 0, .slice fa nf fc, .slice none 0 0, .int .i64 ph, .int .i64 cy], .pointer (some ⟨p, 0, none⟩), .pointer (some ⟨p, 0, none⟩), .pointer (some ⟨p, 7, none⟩), .func (.func 112) #[] #[.pointer (some ⟨Bn, 0, none⟩)], .agg #[.int .i64 x.val.1, .int .i64 x.val.2.1, .int .i64 x.val.2.2, .slice none 0 0], undef, undef, undef, undef, undef, undef, undef, undef, undef, undef, undef, undef, undef, undef, undef, undef, undef, undef, undef, undef, undef, undef, undef, undef, undef, undef, undef, undef, undef, undef, undef], defers := [] })
    (fun x a' _ X Y row hs hg hr => by obtain ⟨Bx, h2, h3, h4⟩ := hs; exact ⟨Bx, rowAt_own Bx 34 (fun _ : Unit => #[.int .i64 x.val.1, .int .i64 x.val.2.1, .int .i64 x.val.2.2, .slice none 0 0]) () X Y row h2 hg (fun r e => (hr r e).2), h3, h4⟩)
    ?assign ?body ?done ?stop
  case assign =>
    rintro l pre x W K hI hK
    have hsz := hI.choose_spec.2.2.size
    gi_wp2
    exact hK _ _ ((KeepsOthers.alloc _ _).from _) (Kl.of_ext0 (Ext.alloc [] _ _)) (vst_own.alloc (s := pre.map Subtype.val) _ hI) ⟨W.heap.size, heap_alloc_new _ _, hsz, rfl⟩
  case body =>
    rintro l pre x a' W hl ⟨r, hr⟩ ⟨v, hbx, hvos, hEx⟩ ⟨Bx, bX, hBx, rfl⟩ hlt
    have hZ := HZ3.out
    have c0 : W.cell? ⟨Bx, 0, none⟩ = some (.int .i64 x.val.1) := by rw [cell_of_row _ _ _ _ _ _ bX]; rfl
    have cmW := hEx.cell cm3 (by simp; omega)
    have hEW : Ext [] w W := (HE0.out.trans HE3.out).on hEx (by have := HZm.out; simp; omega)
    have K := minfo_any (HM.out.keep0 hEW) HK.out x.val.1 x.property
    have hlen0 := vosM_len M (pre.map Subtype.val)
    have hlenL : pre.length + 1 ≤ 32768 := by omega
    have HBXl : Hid (z < Bx) := by show z < Bx; omega
    clear bX hr
    unfold InPost at K
    cases hf : fndM M x.val.1 with
    | none =>
      rw [hf] at K
      have hvn : vosM M ((pre ++ [x]).map Subtype.val) = vosM M (pre.map Subtype.val) := by
        rw [List.map_append, List.map_cons, List.map_nil, vosM_snoc]
        unfold voM
        rw [hf]
        simp
      have HW0 : Hid (∀ w5, Ext [] W w5 → KeepsFrom w3.heap.size W w5 ∧ Kl Bn v3 W w5 ∧ Vst z (.slice fa nf fc) ph cy M w3 ((pre ++ [x]).map Subtype.val) w5) := fun w5 hE5 =>
        ⟨(keepsOthers_of_ext hE5 (by simp)).from _, Kl.of_ext0 hE5, v, hE5.keep hbx (by simp), by rw [hvn]; exact hvos.keep0 hE5, hEx.trans (hE5.mono (by simp))⟩
      clear hvn hbx hvos hEx hEW hf
      unfold obV at K
      simp only at K
      gi_wp2_with fail
      refine ⟨trivial, ((callsIn_wide.2 K).inRound l).mono ?_⟩
      clear K
      rintro e w4 ⟨hE4, rfl⟩
      have HF := hid (HW0.out _ (hE4.trans (Ext.alloc [] w4 (.cells #[.int .i64 0, .int .i64 0, .int .i64 0, .slice none 0 0] 34))))
      clear hE4 HW0
      gi_wp2_with fail
      exact HF.out
    | some o =>
      rw [hf] at K
      obtain ⟨hin, hl1, hl2⟩ := HJ.out.info hf
      have hvn : vosM M ((pre ++ [x]).map Subtype.val) = vosM M (pre.map Subtype.val) ++ [⟨x.val.1, 8 * o.sl.length, tagM M x.val.1, refsM M o.nd⟩] := by
        rw [List.map_append, List.map_cons, List.map_nil, vosM_snoc]
        unfold voM
        rw [hf]
      obtain ⟨A, hA1, hA2, hA3⟩ := hvos
      obtain ⟨va, vc, rfl, _⟩ := own_slice hA2
      have hAl : A.length ≤ pre.length := by rw [← List.length_map (f := Prod.fst), hA1]; simpa using vosM_len M (pre.map Subtype.val)
      have cz0 : W.cell? ⟨z, 0, none⟩ = some (.slice va A.length vc) := by rw [cell_of_row _ _ _ _ _ _ hbx]; rfl
      have hx1 : Hid (∀ u, infV M.H x.val.1 (fnd M.H x.val.1) = .tuple #[u, .int .i64 0] → True) := fun _ _ => trivial
      rw [hin] at K
      simp only at K
      clear hin hx1
      generalize refsM M o.nd = rf at *
      generalize (8 * (o.sl.length : Int)) = sz at *
      generalize tagM M x.val.1 = tg at *
      have HVn := hid hvn
      have HA1 := hid hA1
      have HA2 := hid hA2
      have HA3 := hid hA3
      have Hbx := hid hbx
      have HEx := hid hEx
      clear hvn hA1 hA2 hA3 hbx hEx hEW hf hl1 hl2
      gi_wp2_with fail
      refine ⟨trivial, ((callsIn_wide.2 K).inRound l).mono ?_⟩
      clear K
      rintro e w4 ⟨hE4, rv, ax, s4, t4, er, rfl, hv4, ho4⟩
      simp only [obV, Value.tuple.injEq, Value.agg.injEq, Value.int.injEq, Array.mk.injEq, List.cons.injEq, and_true, true_and] at hv4
      obtain ⟨⟨rfl, rfl, rfl⟩, rfl⟩ := hv4
      obtain ⟨ra4, rc4, rfl, _⟩ := own_slice ho4
      obtain ⟨w6, hw6⟩ : ∃ w6, (w4.alloc (.cells #[.int .i64 x.val.1, .int .i64 sz, .int .i64 tg, .slice ra4 rf.length rc4] 34)).alloc (.cells #[.int .i64 x.val.1, .int .i64 sz, .int .i64 tg, .slice ra4 rf.length rc4] 34) = w6 := ⟨_, rfl⟩
      have hE6 : Ext [] W w6 := by rw [← hw6]; exact (hE4.trans (Ext.alloc [] _ _)).trans (Ext.alloc [] _ _)
      have hE46 : Ext [] w4 w6 := by rw [← hw6]; exact (Ext.alloc [] _ _).trans (Ext.alloc [] _ _)
      have hb6 : w6.heap[w4.heap.size + 1]? = some (.cells #[.int .i64 x.val.1, .int .i64 sz, .int .i64 tg, .slice ra4 rf.length rc4] 34 (0, 0)) := by
        rw [← hw6]
        have := heap_alloc_new (w4.alloc (.cells #[.int .i64 x.val.1, .int .i64 sz, .int .i64 tg, .slice ra4 rf.length rc4] 34)) (.cells #[.int .i64 x.val.1, .int .i64 sz, .int .i64 tg, .slice ra4 rf.length rc4] 34)
        simpa using this
      obtain ⟨i0, hi0, hz0, hz1, hz2⟩ := info_parts info34
      have hws : w3.heap.size ≤ w6.heap.size := Nat.le_trans HEx.out.size hE6.size
      obtain ⟨v', w9, hr9, ho9, hg9, _, hn9⟩ := run_append_own_at (P := Tryz.prog) w6 w3.heap.size 37 37 34 i0 _ 4 48 Tryz.underlying37 hi0 hz0 hz1 hz2 rfl (by decide) (.slice va A.length vc) A.length (A.flatMap voc) (own_keep0 HA2.out hE6) ⟨w4.heap.size + 1, 0, none⟩ 1 1 [.int .i64 x.val.1, .int .i64 sz, .int .i64 tg, .slice ra4 rf.length rc4] rfl (fun j u hu => by rw [Addr.add_lit, cell_of_row _ _ _ _ _ _ hb6, Nat.zero_add, ← hu]; simp) (by simp [Value.oneCell']) (by unfold maxLen; omega) (by omega) hws
      obtain ⟨a9, k9, rfl, _⟩ := own_slice ho9
      have hx9 := ext_grown hg9
      have hvb : ∀ k ∈ (Value.slice va A.length vc).ownBlock.toList, w3.heap.size ≤ k ∧ ∃ c, w6.heap[k]? = some (.cells c 34 (0, 0)) := fun k hk => by
        rw [Option.mem_toList] at hk
        exact ⟨(own_lt HA2.out k hk).1, own_ty (own_keep0 HA2.out hE6) hk⟩
      have hbx6 := hE6.keep Hbx.out (by simp)
      have hzv : z ∉ (Value.slice va A.length vc).ownBlock.toList := fun hm => by
        obtain ⟨_, c, hc⟩ := hvb z hm
        rw [hbx6] at hc
        simp at hc
      have hbx9 := hx9.keep hbx6 hzv
      have c9 : w9.cell? ⟨z, 0, none⟩ = some (.slice va A.length vc) := by rw [cell_of_row _ _ _ _ _ _ hbx9]; rfl
      have f9 : w9.frozen? ⟨z, 0, none⟩ = false := frozen_of_row _ _ _ _ _ hbx9
      have hx10 := Ext.setCell [z] w9 ⟨z, 0, none⟩ (.slice a9 (A.length + 1) k9) (by simp)
      have HF : Hid (KeepsFrom w3.heap.size W (w9.setCell ⟨z, 0, none⟩ (.slice a9 (A.length + 1) k9)) ∧ Kl Bn v3 W (w9.setCell ⟨z, 0, none⟩ (.slice a9 (A.length + 1) k9)) ∧ Vst z (.slice fa nf fc) ph cy M w3 ((pre ++ [x]).map Subtype.val) (w9.setCell ⟨z, 0, none⟩ (.slice a9 (A.length + 1) k9))) := by
        have hxx : Ext ((Value.slice va A.length vc).ownBlock.toList ++ [z]) W (w9.setCell ⟨z, 0, none⟩ (.slice a9 (A.length + 1) k9)) := ((hE6.mono (by simp)).trans (hx9.mono (by simp; intro a ha; exact .inl ha))).trans (hx10.mono (by simp))
        refine ⟨(((keepsOthers_of_ext hE6 (by simp)).trans (keepsOthers_of_ext hx9 (fun k hk _ => by obtain ⟨_, c, hc⟩ := hvb k hk; exact ⟨_, _, _, hc⟩))).trans (KeepsOthers.setCell _ _ _)).from _, Kl.of_ext hxx ?_ ?_, (.slice a9 (A.length + 1) k9), ?_, ?_, ?_⟩
        · intro hm
          rcases List.mem_append.1 hm with q | q
          · have := (hvb _ q).1; omega
          · simp at q; omega
        · intro g hg hm
          have := hZ.2.2.2.2.2.2 g hg
          rcases List.mem_append.1 hm with q | q
          · have := (hvb _ q).1; omega
          · simp at q; omega
        · unfold Vbx
          rw [heap_setCell_same _ z 0 _ _ (.slice a9 (A.length + 1) k9) hbx9]
          rfl
        · rw [HVn.out]
          refine ⟨A ++ [(⟨x.val.1, sz, tg, rf⟩, ra4, rc4)], by rw [List.map_append, HA1.out]; rfl, ?_, fun q hq => ?_⟩
          · rw [List.length_append, List.flatMap_append]
            refine own_keep (by simpa [voc, vqs] using ho9) hx10 (fun b hb hv => ?_)
            simp only [List.mem_singleton] at hb
            subst hb
            obtain ⟨c, hc⟩ := own_ty ho9 hv
            rw [hbx9] at hc
            simp at hc
          · have h6 : w6.ownsRow w3.heap.size 3 1 (vqs q) q.1.r.length (lI q.1.r) := by
              rcases List.mem_append.1 hq with q1 | q1
              · exact own_keep0 (HA3.out q q1) hE6
              · simp only [List.mem_singleton] at q1
                subst q1
                exact own_base (own_keep0 ho4 hE46) (HEx.out.size)
            refine own_keep (own_keep h6 hx9 (fun b hb hv => ?_)) hx10 (fun b hb hv => ?_)
            · obtain ⟨_, c, hc⟩ := hvb b hb
              obtain ⟨c', hc'⟩ := own_ty h6 hv
              rw [hc] at hc'
              simp at hc'
            · simp only [List.mem_singleton] at hb
              subst hb
              obtain ⟨c', hc'⟩ := own_ty h6 hv
              rw [hbx6] at hc'
              simp at hc'
        · have hE6x : Ext [z] w3 w6 := HEx.out.trans (hE6.mono (by simp))
          exact (((hE6x.mono (T := [z] ++ (Value.slice va A.length vc).ownBlock.toList) (by simp)).trans (hx9.mono (by simp; intro a ha; exact .inr ha))).drop (fun k hk => by
            rcases List.mem_append.1 hk with q | q
            · exact .inl q
            · exact .inr (hvb k q).1)).trans hx10
      have HW6 := hid hw6
      have hzl : z < w4.heap.size := Nat.lt_of_lt_of_le (lt_of_heap Hbx.out) hE4.size
      have cz4 : (w4.alloc (.cells #[.int .i64 x.val.1, .int .i64 sz, .int .i64 tg, .slice ra4 rf.length rc4] 34)).cell? ⟨z, 0, none⟩ = some (.slice va A.length vc) := (hE4.trans (Ext.alloc [] _ _)).cell cz0 (by simp)
      clear hE6 hE46 hb6 hws ho9 hg9 hn9 hx9 hvb hbx6 hzv hbx9 hx10 ho4 hE4 hw6
      gi_wp2_with (first | (gi_at_builtin; rw [HW6.out]; refine wpListIn_append_run rfl _ _ 37 rfl _ _ _ rfl rfl hr9 ?_) | fail "no arm")
      exact HF.out
  case done =>
    rintro D xs W9 hD hxs hI hK
    subst hxs
    simp only [hOLm] at hI
    obtain ⟨v, hbx, hvos, hEx⟩ := hI
    have hZ := HZ3.out
    have hzw : w.heap.size ≤ z := by have := HZm.out; omega
    have hEW : Ext [] w W9 := (HE0.out.trans HE3.out).on hEx (by simpa using hzw)
    have hdz : z < D := by omega
    obtain ⟨A, hA1, hA2, hA3⟩ := hvos
    obtain ⟨va, vc, rfl, _⟩ := own_slice hA2
    have HBx := hid hbx
    have HVo : Hid (Vos W9 w3.heap.size (.slice va A.length vc) (vosM M (objs M.H.sp))) := ⟨A, hA1, hA2, hA3⟩
    have HEW := hid hEW
    have HK9 := hid hK
    have hfo9 : Hid (W9.ownsRow w1.heap.size 98 3 (.slice fa nf fc) nf FC) := own_keep HFo3.out hEx (fun b hb hv => by
      simp only [List.mem_singleton] at hb
      subst hb
      obtain ⟨c, hc⟩ := own_ty HFo3.out hv
      rw [hbx3] at hc
      simp at hc)
    have HBr9 : Hid (W9.heap[zm + 1]? = some (.cells #[.slice none 0 0, .slice none 0 0, .slice none 0 0, .int .i64 0, .int .i64 0] 40 (0, 0))) := ((HE3.out.keep HBr.out (by simp)) |> fun q => hEx.keep q (by simp; omega))
    have Hdz := hid hdz
    have Hzw := hid hzw
    have hs9 := hEx.size
    have HDl : Hid (w3.heap.size ≤ D) := hD
    clear hbx hA1 hA2 hA3 hEW hK hEx hB3 hL3 cm cm3 hobI st0 hOLm hOLl
    generalize A.length = an at *
    gi_wp2_with fail
    gi_loopw [56] (fun q wr => ∃ (k : Nat) (ra' : Option Addr) (rc' : Nat), q = .int .i64 k ∧ k ≤ rn ∧ Vbx wr z (.slice va an vc) (.slice fa nf fc) (.slice ra' (vroots (R.take k)).length rc') ph cy ∧ wr.ownsRow W9.heap.size 3 1 (.slice ra' (vroots (R.take k)).length rc') (vroots (R.take k)).length (lI (vroots (R.take k))) ∧ Ext [z] W9 wr) (fun q _ => (rn - (intOf q)).toNat)
    case atStart => exact ⟨0, none, 0, rfl, Nat.zero_le _, HBx.out, own_nil _ _ _ _, Ext.refl _ _⟩
    case round =>
      obtain ⟨k, ra', rc', rfl, hk, hbk, hok, hek⟩ := hrel
      have HBk := hid hbk
      have HOk := hid hok
      have HEk := hid hek
      by_cases hlt : k < rn
      · have hkl : k < R.length := by omega
        have hewr : Ext [] w wr := HEW.out.on hek (by simpa using Hzw.out)
        obtain ⟨b', o', rfl, hcell⟩ := Co.Is.cell (HR.out.keep0 (co_ext hewr)) hkl
        have hS := vroots_succ R hkl
        have hvl := vroots_len (R.take k)
        simp only [List.length_take] at hvl
        clear hbk hok hek
        generalize R.getD k 0 = x at *
        by_cases hx : x = 0
        · subst hx
          rw [if_pos rfl, List.append_nil] at hS
          have HS := hid hS
          clear hS hvl hewr
          gi_wp2_with fail
          go_roundw
          case rel => exact ⟨k + 1, ra', rc', by go_num, by omega, by rw [HS.out]; exact HBk.out, by rw [HS.out]; exact HOk.out, HEk.out⟩
          case measure => simp [intOf]; omega
        · rw [if_neg hx] at hS
          have b1 : (x != 0) = true := by simpa using hx
          generalize hvr : vroots (R.take k) = L at *
          obtain ⟨i0, hi0, hz0, hz1, hz2⟩ := info_parts info3
          have hE1 := Ext.alloc [] wr (.cells #[.int .i64 x] 3)
          have hb1 := heap_alloc_new wr (.cells #[.int .i64 x] 3)
          obtain ⟨v', w9, hr9, ho9, hg9, _, hn9⟩ := run_append_own_at (P := Tryz.prog) (wr.alloc (.cells #[.int .i64 x] 3)) W9.heap.size 32 32 3 i0 _ 1 8 Tryz.underlying32 hi0 hz0 hz1 hz2 rfl (by decide) (.slice ra' L.length rc') L.length (lI L) (own_keep0 HOk.out hE1) ⟨wr.heap.size, 0, none⟩ 1 1 [.int .i64 x] rfl (fun j u hu => by rw [Addr.add_lit, cell_of_row _ _ _ _ _ _ hb1, Nat.zero_add, ← hu]; simp) (by simp [Value.oneCell']) (by unfold maxLen; omega) (by omega) (by have := HEk.out.size; have := hE1.size; omega)
          obtain ⟨a9, k9, rfl, _⟩ := own_slice ho9
          have hx9 := ext_grown hg9
          have hbx1 := hE1.keep HBk.out (by simp)
          have hvb : ∀ j ∈ (Value.slice ra' L.length rc').ownBlock.toList, W9.heap.size ≤ j ∧ ∃ c, (wr.alloc (.cells #[.int .i64 x] 3)).heap[j]? = some (.cells c 3 (0, 0)) := fun j hj => by
            rw [Option.mem_toList] at hj
            exact ⟨(own_lt HOk.out j hj).1, own_ty (own_keep0 HOk.out hE1) hj⟩
          have hzv : z ∉ (Value.slice ra' L.length rc').ownBlock.toList := fun hm => by
            obtain ⟨_, c, hc⟩ := hvb z hm
            rw [hbx1] at hc
            simp at hc
          have hbx9 := hx9.keep hbx1 hzv
          have c9 : w9.cell? ⟨z, 2, none⟩ = some (.slice ra' L.length rc') := by rw [cell_of_row _ _ _ _ _ _ hbx9]; rfl
          have f9 : w9.frozen? ⟨z, 2, none⟩ = false := frozen_of_row _ _ _ _ _ hbx9
          have c1 : wr.cell? ⟨z, 2, none⟩ = some (.slice ra' L.length rc') := by rw [cell_of_row _ _ _ _ _ _ HBk.out]; rfl
          have hx10 := Ext.setCell [z] w9 ⟨z, 2, none⟩ (.slice a9 (L.length + 1) k9) (by simp)
          have HF : Hid (Vbx (w9.setCell ⟨z, 2, none⟩ (.slice a9 (L.length + 1) k9)) z (.slice va an vc) (.slice fa nf fc) (.slice a9 (vroots (R.take (k + 1))).length k9) ph cy ∧ (w9.setCell ⟨z, 2, none⟩ (.slice a9 (L.length + 1) k9)).ownsRow W9.heap.size 3 1 (.slice a9 (vroots (R.take (k + 1))).length k9) (vroots (R.take (k + 1))).length (lI (vroots (R.take (k + 1)))) ∧ Ext [z] W9 (w9.setCell ⟨z, 2, none⟩ (.slice a9 (L.length + 1) k9))) := by
            rw [hS, List.length_append]
            refine ⟨?_, own_keep (by simpa [lI] using ho9) hx10 (fun b hb hv => ?_), ?_⟩
            · unfold Vbx
              rw [heap_setCell_same _ z 2 _ _ _ hbx9]
              rfl
            · simp only [List.mem_singleton] at hb
              subst hb
              obtain ⟨c, hc⟩ := own_ty ho9 (by simpa using hv)
              rw [hbx9] at hc
              simp at hc
            · have hW1 : Ext [z] W9 (wr.alloc (.cells #[.int .i64 x] 3)) := HEk.out.trans (hE1.mono (by simp))
              exact (((hW1.mono (T := [z] ++ (Value.slice ra' L.length rc').ownBlock.toList) (by simp)).trans (hx9.mono (by simp; intro a ha; exact .inr ha))).drop (fun k hk => by
                rcases List.mem_append.1 hk with q | q
                · exact .inl q
                · exact .inr (hvb k q).1)).trans hx10
          clear ho9 hg9 hn9 hx9 hvb hbx1 hzv hbx9 hx10 hE1 hb1 hi0 hz0 hz1 hz2 hewr
          gi_wp2_with (first | (gi_at_builtin; refine wpListIn_append_run rfl _ _ 32 rfl _ _ _ rfl rfl hr9 ?_) | fail "no arm")
          go_roundw
          case rel => exact ⟨k + 1, a9, k9, by go_num, by omega, HF.out.1, HF.out.2.1, HF.out.2.2⟩
          case measure => simp [intOf]; omega
      · obtain rfl : k = rn := by omega
        rw [List.take_of_length_le (by omega)] at HBk HOk hbk
        have b0 : wr.cell? ⟨z, 0, none⟩ = some (.slice va an vc) := by rw [cell_of_row _ _ _ _ _ _ HBk.out]; rfl
        have b1 : wr.cell? ⟨z, 1, none⟩ = some (.slice fa nf fc) := by rw [cell_of_row _ _ _ _ _ _ HBk.out]; rfl
        have b2 : wr.cell? ⟨z, 2, none⟩ = some (.slice ra' (vroots R).length rc') := by rw [cell_of_row _ _ _ _ _ _ HBk.out]; rfl
        have b3 : wr.cell? ⟨z, 3, none⟩ = some (.int .i64 ph) := by rw [cell_of_row _ _ _ _ _ _ HBk.out]; rfl
        have b4 : wr.cell? ⟨z, 4, none⟩ = some (.int .i64 cy) := by rw [cell_of_row _ _ _ _ _ _ HBk.out]; rfl
        have hbr : wr.heap[zm + 1]? = some (.cells #[.slice none 0 0, .slice none 0 0, .slice none 0 0, .int .i64 0, .int .i64 0] 40 (0, 0)) := HEk.out.keep HBr9.out (by simp; omega)
        have r0 : wr.cell? ⟨zm + 1, 0, none⟩ = some (.slice none 0 0) := by rw [cell_of_row _ _ _ _ _ _ hbr]; rfl
        have r1 : wr.cell? ⟨zm + 1, 1, none⟩ = some (.slice none 0 0) := by rw [cell_of_row _ _ _ _ _ _ hbr]; rfl
        have r2 : wr.cell? ⟨zm + 1, 2, none⟩ = some (.slice none 0 0) := by rw [cell_of_row _ _ _ _ _ _ hbr]; rfl
        have r3 : wr.cell? ⟨zm + 1, 3, none⟩ = some (.int .i64 0) := by rw [cell_of_row _ _ _ _ _ _ hbr]; rfl
        have r4 : wr.cell? ⟨zm + 1, 4, none⟩ = some (.int .i64 0) := by rw [cell_of_row _ _ _ _ _ _ hbr]; rfl
        have rz : ∀ j, wr.frozen? ⟨zm + 1, j, none⟩ = false := fun j => frozen_of_row _ _ j _ _ hbr
        have HBr10 := hid hbr
        clear hbk hok hek hbr
        gi_wp2_with fail
        have HPhc := hid (And.intro HPh.out HCy.out)
        have h1x : zm + 1 < z := by omega
        obtain ⟨W10, hW10⟩ : ∃ W10, ((((wr.setCell ⟨zm + 1, 0, none⟩ (.slice va an vc)).setCell ⟨zm + 1, 1, none⟩ (.slice fa nf fc)).setCell ⟨zm + 1, 2, none⟩ (.slice ra' (vroots R).length rc')).setCell ⟨zm + 1, 3, none⟩ (.int .i64 ph)).setCell ⟨zm + 1, 4, none⟩ (.int .i64 cy) = W10 := ⟨_, rfl⟩
        have hx10 : Ext [zm + 1] wr W10 := by rw [← hW10]; exact ext5 _ _ _ _ _ _ _
        have hr10 : Vbx W10 (zm + 1) (.slice va an vc) (.slice fa nf fc) (.slice ra' (vroots R).length rc') ph cy := by rw [← hW10]; exact row5 HBr10.out rfl _ _ _ _ _
        have hd10 : W10.heap[D]? = some (.deferred (some [])) := hx10.keep (HEk.out.keep HK9.out (by simp; omega)) (by simp; omega)
        have hx11 := Ext.grown (S := [D]) (grownBy_putObj' W10 D (.deferred none)) (by simp)
        have hr11 := hx11.keep hr10 (by simp; omega)
        have hxs : Ext [z, zm + 1, D] W9 (W10.putObj D (.deferred none)) := ((HEk.out.mono (by simp)).trans (hx10.mono (by simp))).trans (hx11.mono (by simp))
        have hz9 : ∀ b ∈ [z, zm + 1, D], ∀ c t, t ≠ 40 → W9.heap[b]? ≠ some (.cells c t (0, 0)) := fun b hb c t ht he => by
          simp only [List.mem_cons, List.not_mem_nil, or_false] at hb
          rcases hb with rfl | rfl | rfl
          · rw [HBx.out] at he; simp at he; exact ht he.2.symm
          · rw [HBr9.out] at he; simp at he; exact ht he.2.symm
          · rw [HK9.out] at he; simp at he
        have hF : ViPost w (vosM M (objs M.H.sp)) (fr M.H.R) (vroots R) M.G.ph M.G.cy (.returned (.tuple #[.agg #[.slice va an vc, .slice fa nf fc, .slice ra' (vroots R).length rc', .int .i64 ph, .int .i64 cy], .int .i64 0])) (W10.putObj D (.deferred none)) := by
          have hw3 : w.heap.size ≤ w3.heap.size := by have := HZm.out; omega
          refine ⟨_, fa, fc, ra', rc', by rw [Hnf.out, HPh.out, HCy.out], (HVo.out.keep hxs (fun b hb c => ⟨hz9 b hb c 34 (by decide), hz9 b hb c 3 (by decide)⟩)).base hw3, ?_, ?_, ?_⟩
          · rw [Hnf.out, HFc.out]
            refine own_base (own_keep hfo9.out hxs (fun b hb hv => ?_)) (by have := HZm.out; omega)
            obtain ⟨c, hc⟩ := own_ty hfo9.out hv
            exact hz9 b hb c 98 (by decide) hc
          · refine own_base (own_keep (own_keep HOk.out hx10 (fun b hb hv => ?_)) hx11 (fun b hb hv => ?_)) HEW.out.size
            · simp only [List.mem_singleton] at hb
              subst hb
              obtain ⟨c, hc⟩ := own_ty HOk.out hv
              rw [HBr10.out] at hc
              simp at hc
            · simp only [List.mem_singleton] at hb
              subst hb
              obtain ⟨c, hc⟩ := own_ty HOk.out hv
              rw [HEk.out.keep HK9.out (by simp; omega)] at hc
              simp at hc
          · exact HEW.out.on hxs (fun b hb => by
              simp only [List.mem_cons, List.not_mem_nil, or_false] at hb
              have := HZm.out
              rcases hb with rfl | rfl | rfl <;> omega)
        have HF := hid hF
        clear hF hz9 hxs hx11 hx10 HVo hfo9
        rw [hW10]
        refine ⟨by simp, .inl ⟨_, _, rfl, run_takeDeferred hd10, ?_⟩⟩
        exact ⟨_, results_cell_tmp2 (P := Tryz.prog) (fn := Tryz.f13) (p := 4) (q := 5) (ty := 40) rfl _ _ ⟨zm + 1, 0, none⟩ _ rfl (load40v hr11), HF.out⟩
  case stop =>
    rintro D c pre W _ _ h _
    exact h.elim
end
end Go.Proofs.YtjbbomokgpoilaaGreatDoor
