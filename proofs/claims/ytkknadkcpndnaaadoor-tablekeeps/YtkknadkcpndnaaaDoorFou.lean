/-
  The statements' own 'found': the list that Find gives; no statement is proved here.
-/
import Derived.Test.YtkknadkcpndnaaaDoorFin
import Derived.Test.YtkknadkcpndnaaaDoorCln
namespace Go.Proofs.YtkknadkcpndnaaaDoor
open Go.RowKit Go.Shelf
open Pr (Gp GpI sq pl)
attribute [local go_sem] Oper.semAt_some run_store_func

namespace Vl
def Lst (w : World) (v : Value) (L : List Nat) : Prop := w.ownsRow 0 23 1 v L.length (vw L)
theorem Lst.keep {S : List Nat} {w w' : World} {v : Value} {L : List Nat} (h : Lst w v L) (x : Ext S w w') (hs : ∀ b ∈ S, v.ownBlock ≠ some b) : Lst w' v L := own_keep h x hs
theorem Lst.keep0 {w w' : World} {v : Value} {L : List Nat} (h : Lst w v L) (x : Ext [] w w') : Lst w' v L := own_keep0 h x
theorem lst_nil (w : World) : Lst w (.slice none 0 0) [] := own_nil _ _ _ _
theorem Lst.slice {w : World} {v : Value} {L : List Nat} (h : Lst w v L) : ∃ a c, v = .slice a L.length c ∧ L.length ≤ c := own_slice h
theorem Lst.lt {w : World} {v : Value} {L : List Nat} (h : Lst w v L) : ∀ g, v.ownBlock = some g → g < w.heap.size := fun g hg => (own_lt h g hg).2

/-- What a loop's round must keep: the box of the iterator's list, and the list. -/
structure Kl (Bn : Nat) (v : Value) (A B : World) : Prop where
  box : ∀ o, A.heap[Bn]? = some o → B.heap[Bn]? = some o
  row : ∀ g, v.ownBlock = some g → ∀ o, A.heap[g]? = some o → B.heap[g]? = some o

theorem Kl.refl (Bn : Nat) (v : Value) (A : World) : Kl Bn v A A := ⟨fun _ h => h, fun _ _ _ h => h⟩
theorem Kl.trans {Bn : Nat} {v : Value} {A B C : World} (h : Kl Bn v A B) (k : Kl Bn v B C) : Kl Bn v A C :=
  ⟨fun o ho => k.box o (h.box o ho), fun g hg o ho => k.row g hg o (h.row g hg o ho)⟩
theorem Kl.lst {Bn : Nat} {v : Value} {A B : World} (h : Kl Bn v A B) {L : List Nat} (hl : Lst A v L) : Lst B v L := by
  refine ⟨hl.1, ?_⟩
  rcases hl.2 with q | ⟨g, cap, cur, rfl, h1, h2, h3⟩
  · exact .inl q
  · exact .inr ⟨g, cap, cur, rfl, h1, h.row g rfl _ h2, h3⟩
theorem Kl.boxed {Bn : Nat} {v : Value} {A B : World} (h : Kl Bn v A B) {t : TypeId} {u : Value} (hb : Boxed A Bn t u) : Boxed B Bn t u := h.box _ hb
theorem Kl.of_ext {Bn : Nat} {v : Value} {A B : World} {S : List Nat} (x : Ext S A B) (h1 : Bn ∉ S) (h2 : ∀ g, v.ownBlock = some g → g ∉ S) : Kl Bn v A B :=
  ⟨fun _ ho => x.keep ho h1, fun g hg _ ho => x.keep ho (h2 g hg)⟩
theorem Kl.of_ext0 {Bn : Nat} {v : Value} {A B : World} (x : Ext [] A B) : Kl Bn v A B := Kl.of_ext x (by simp) (by simp)
theorem klK_b {Bn : Nat} {v : Value} {w : World} (h1 : Bn < w.heap.size) (h2 : ∀ g, v.ownBlock = some g → g < w.heap.size) (W : World) (l : Nat) (o o' : Obj) (hl : w.heap.size ≤ l) (_ : W.heap[l]? = some o) (_ : o.isCells = false) (_ : o.isWalk = false) : Kl Bn v W (W.putObj l o') :=
  ⟨fun _ ho => (World.putObj_heap_other (by omega)).trans ho, fun g hg _ ho => (World.putObj_heap_other (by have := h2 g hg; omega)).trans ho⟩
theorem klK_t {Bn : Nat} {v : Value} {A B C : World} (h : Kl Bn v A B) (k : Kl Bn v B C) : Kl Bn v A C := h.trans k
theorem Kl.of_below {Bn n₀ : Nat} {v : Value} {A B : World} (h : Below n₀ A B) (h1 : Bn < n₀) (h2 : ∀ g, v.ownBlock = some g → g < n₀) : Kl Bn v A B :=
  ⟨fun _ ho => (h.block _ h1).trans ho, fun g hg _ ho => (h.block g (h2 g hg)).trans ho⟩

set_option maxRecDepth 100000 in
set_option maxHeartbeats 2000000 in
/-- The iterator's body, for every loop body that keeps the iterator's list. -/
theorem each1_in (F : Fence) (n : Nat) (h81 : F.fn 81) (hro : F.round = none) (hn : 1 ≤ n) (l Bn : Nat) (v : Value) (L : List Nat) (hlen : L.length ≤ 1000000) (J Jx : List Nat → World → Prop)
    (hY : ∀ pre x W, J pre W → pre.length < L.length → YieldAt F (n - 1) Tryd.prog l #[.int .u64 (x : Nat)] W fun e W' =>
      (e = .returned (.bool true) ∧ J (pre ++ [x]) W' ∧ Kl Bn v W W') ∨ (e = .returned (.bool false) ∧ Jx (pre ++ [x]) W'))
    (W : World) (hBn : Boxed W Bn 22 v) (hL : Lst W v L) (h0 : J [] W) :
    CallsIn F n Tryd.prog 81 #[.func (.yield l) #[] #[], .pointer (some ⟨Bn, 0, none⟩)] W fun e W' => (∃ v, e = .returned v) ∧
      ((∃ ys, ys = L ∧ J ys W') ∨ (∃ pre, pre <+: L ∧ Jx pre W')) := by
  obtain ⟨a, c, rfl, _⟩ := hL.slice
  have hc := hBn.cell
  have hbl := hBn.lt
  refine callsIn_of_wp Tryd.func81 rfl h81 ?_ hro
  simp only [Tryd.ntmps81, List.size_toArray, List.length_cons, List.length_nil, Nat.reduceAdd, Nat.reduceSub, Array.replicate_succ, Array.replicate_zero, List.push_toArray, List.append_toArray, List.nil_append, List.cons_append]
  have HL := hid hL
  have HB := hid hBn
  clear hL hBn
  gi_wp2
  gi_loopw [7] (fun q wr => ∃ k : Nat, q = .int .i64 k ∧ k ≤ L.length ∧ Lst wr (.slice a L.length c) L ∧ Boxed wr Bn 22 (.slice a L.length c) ∧ J (L.take k) wr) (fun q _ => (L.length - (intOf q)).toNat)
  case atStart => exact ⟨0, rfl, Nat.zero_le _, HL.out, HB.out, by simpa using h0⟩
  case round =>
    clear HL HB
    obtain ⟨k, rfl, hk, hL, hB, hJk⟩ := hrel
    have HL := hid hL
    have HB := hid hB
    clear hB hL
    by_cases hlt : k < L.length
    · obtain ⟨b, o, rfl, hcc⟩ := (show Wd wr a L from own_vs HL.out).at_ (by rintro rfl; simp at hlt)
      have c0 := hcc k hlt
      clear hcc
      have HM : Hid (L.take k ++ [L.getD k 0] = L.take (k + 1)) := by
        show _ = _
        rw [List.take_add_one]; simp [hlt]
      generalize L.getD k 0 = x at *
      obtain ⟨fn, tmps, assign, body, hy, hR⟩ := hY (L.take k) x _ hJk (by simp; omega)
      gi_wp2
      refine hR.mono ?_
      rintro e W3 (⟨rfl, hJ3, hk3⟩ | ⟨rfl, hJx3⟩)
      · have HL3 := hid (hk3.lst HL.out)
        have HB3 := hid (hk3.boxed HB.out)
        gi_wp2
        go_roundw
        case rel => exact ⟨k + 1, by go_num, by omega, HL3.out, HB3.out, by rw [← HM.out]; exact hJ3⟩
        case measure => simp [intOf]; omega
      · gi_wp2
        refine bodyPost_ret (results_none rfl _ _ _) rfl ?_
        exact ⟨⟨_, rfl⟩, .inr ⟨_, by rw [HM.out]; exact List.take_prefix _ _, hJx3⟩⟩
    · obtain rfl : k = L.length := by omega
      gi_wp2
      go_end0
      exact ⟨⟨_, rfl⟩, .inl ⟨L, rfl, by rwa [List.take_length] at hJk⟩⟩

/-- The iterator's contract. -/
theorem each_stops (F : Fence) (n : Nat) (h81 : F.fn 81) (hro : F.round = none) (hn : 1 ≤ n) (Bn : Nat) (v : Value) (L : List Nat) (hlen : L.length ≤ 1000000) (w : World) (hB : Boxed w Bn 22 v) (hL : Lst w v L) :
    SeqStopsK F n Tryd.prog 81 #[.pointer (some ⟨Bn, 0, none⟩)] (fun x : Nat => #[Value.int .u64 (x : Nat)]) (Kl Bn v) (fun ys => ys = L) (fun pre => pre <+: L) L.length w := fun l J Jx W hW _ _ hY h0 =>
  each1_in F n h81 hro hn l Bn v L hlen J Jx hY W ((below_ext hW).keep hB (by simp)) (hL.keep0 (below_ext hW)) h0

end Vl
theorem eql_func_nil (w : World) (gf : FuncId) (lb : Array Value) : (binOp .eql 62 (.func (.func gf) #[] lb) .nilFunc).run Tryd.prog w = .ok (.bool false) w := by
  have h : ∀ d, (Op.equalIn (d + 1) 62 (.func (.func gf) #[] lb) .nilFunc).run Tryd.prog w = .ok false w := fun d => by simp [Op.equalIn, run_underlying Tryd.underlying62]
  simp only [binOp]
  simp [Op.equal, Op.maxDepth, h 9999]
theorem load22' {w : World} {g : Nat} {v : Value} (h : Boxed w g 22 v) : (loadVar 22 ⟨g, 0, none⟩).run Tryd.prog w = .ok v w := by
  have := h.cell
  simp [go_sem, this]
theorem results_cells2' {P : Program} {fn : Func} {p q : Tmp} {ty ty' : TypeId} (h : fn.results = #[.cell p ty, .cell q ty']) (tmps : Array Value) (w : World) (a b : Addr) (v v' : Value)
    (hp : tmps.getD p undef = .pointer (some a)) (hq : tmps.getD q undef = .pointer (some b)) (h1 : (loadVar ty a).run P w = .ok v w) (h2 : (loadVar ty' b).run P w = .ok v' w) : (results fn tmps).run P w = .ok (.tuple #[v, v']) w := by
  have hp' : tmps[p]?.getD undef = .pointer (some a) := by simpa using hp
  have hq' : tmps[q]?.getD undef = .pointer (some b) := by simpa using hq
  simp [results, h, hp', hq', asAddr, h1, h2]
def FoPost (w : World) (L : List Nat) (e : Ending) (w' : World) : Prop := ∃ v, e = .returned (.tuple #[v, .bool true]) ∧ w'.ownsRow w.heap.size 23 1 v L.length (vw L) ∧ Ext [] w w'

set_option maxRecDepth 100000 in
set_option maxHeartbeats 4000000 in
theorem found_any (a : Option Addr) (c : Nat) (T : List Nat) (G h : Nat) (hSd : Sd T G) (hh : h < 18446744073709551616) (w : World) (hT : Wd w a T) (hTb : Tb w) :
    Calls Tryd.prog 14 #[.slice a (3 + 17 * G) c, .int .u64 (h : Nat)] w (FoPost w (fnd T h G)) := by
  have hlen := hSd.shp.len
  have hG := hSd.shp.gp.le
  have hml : (fnd T h G).length ≤ 8 * G := by unfold fnd; rw [List.length_map]; exact mts_len hSd.shp.gp
  refine (callsIn_wide (n := 14)).1 ?_
  refine callsIn_of_wp_marks Tryd.func14 rfl trivial ?_ rfl
  simp only [Tryd.ntmps14, List.size_toArray, List.length_cons, List.length_nil, Nat.reduceAdd, Nat.reduceSub, Array.replicate_succ, Array.replicate_zero, List.push_toArray, List.append_toArray, List.nil_append, List.cons_append]
  obtain ⟨z, hz⟩ : ∃ z, w.heap.size = z := ⟨_, rfl⟩
  obtain ⟨W0, hW0⟩ : ∃ W0, ((w.alloc (.cells #[.slice a (3 + 17 * G) c] 22)).alloc (.cells #[.slice none 0 0] 22)).alloc (.cells #[.bool false] 4) = W0 := ⟨_, rfl⟩
  have hE0 : Ext [] w W0 := by rw [← hW0]; exact ((Ext.alloc [] _ _).trans (Ext.alloc [] _ _)).trans (Ext.alloc [] _ _)
  have b0 : Boxed W0 z 22 (.slice a (3 + 17 * G) c) := by rw [← hW0, ← hz]; exact ((Boxed.new w 22 _).alloc _).alloc _
  have b1 : Boxed W0 (z + 1) 22 (.slice none 0 0) := by
    have := (Boxed.new (w.alloc (.cells #[.slice a (3 + 17 * G) c] 22)) 22 (.slice none 0 0)).alloc (.cells #[.bool false] 4)
    rw [hW0, World.size_alloc, hz] at this; exact this
  have b2 : Boxed W0 (z + 2) 4 (.bool false) := by
    have := Boxed.new ((w.alloc (.cells #[.slice a (3 + 17 * G) c] 22)).alloc (.cells #[.slice none 0 0] 22)) 4 (.bool false)
    rw [hW0, World.size_alloc, World.size_alloc, hz] at this; exact this
  have cZ := b0.cell
  have K0 := ownT_any a (3 + 17 * G) c T W0 (hT.keep0 hE0) (by omega) (by omega) (by omega)
  have HE0 := hid hE0
  have Hb0 := hid b0
  have Hb1 := hid b1
  have Hb2 := hid b2
  have HTb0 := hid (hTb.keep0 hE0)
  have HSd := hid hSd
  have HZ := hid hz
  clear hE0 b0 b1 b2 hT hTb hSd hlen
  generalize hLL : fnd T h G = LL at *
  gi_wp2_with fail
  try rw [hW0]
  try simp only [hz]
  simp only [show z + 1 + 1 = z + 2 from rfl]
  clear hW0 hz
  refine ⟨trivial, ?_⟩
  gi_at_call 12
  refine (callsIn_wide.2 K0).mono ?_
  clear K0 cZ
  rintro _ w1 ⟨g, cc, rfl, hTw, hg, hX1⟩
  have K1 := find_any (some ⟨g, 0, none⟩) cc T G h HSd.out hh w1 hTw.wd (HTb0.out.keep0 hX1)
  rw [hLL] at K1
  have HX1 := hid hX1
  clear hX1 hTw hg
  gi_wp2_with fail
  refine ⟨trivial, ?_⟩
  gi_at_call 32
  refine (callsIn_wide.2 K1).mono ?_
  clear K1
  rintro _ w2 ⟨Bn, vi, rfl, hbn, hon, hBn, hX2⟩
  have hfn := fun W => eql_func_nil W 81 #[.pointer (some ⟨Bn, 0, none⟩)]
  have HX2 := hid (HX1.out.trans hX2)
  have hLi : Vl.Lst w2 vi LL := own_base hon (Nat.zero_le _)
  have HLi := hid hLi
  have Hbn := hid hbn
  clear hX2 HX1 hon hbn hLi hBn
  gi_wp2_with fail
  clear hfn
  have hEa := Ext.alloc [] w2 (.cells #[.slice none 0 0] 22)
  have hbn' := hEa.keep Hbn.out (by simp)
  have hLi' := HLi.out.keep0 hEa
  have bL := Boxed.new w2 22 (.slice none 0 0)
  have hB0 := hEa.below
  have hs3 : (w2.alloc (.cells #[.slice none 0 0] 22)).heap.size = w2.heap.size + 1 := by simp
  obtain ⟨z2, hz2⟩ : ∃ z2, w2.heap.size = z2 := ⟨_, rfl⟩
  obtain ⟨W3, hW3⟩ : ∃ W3, w2.alloc (.cells #[.slice none 0 0] 22) = W3 := ⟨_, rfl⟩
  rw [hW3] at hbn' hLi' bL hB0 hs3 ⊢
  rw [hz2] at bL hB0 hs3 ⊢
  have HZ2 := hid hz2
  have Ht0 := hid (show Boxed w2 z 22 _ from HX2.out.keep Hb0.out (by simp))
  have Ht1 := hid (show Boxed w2 (z + 1) 22 _ from HX2.out.keep Hb1.out (by simp))
  have Ht2 := hid (show Boxed w2 (z + 2) 4 _ from HX2.out.keep Hb2.out (by simp))
  have hzz2 : z + 2 < z2 := by rw [← hz2]; exact Ht2.out.lt
  have hBl : Bn < W3.heap.size := Boxed.lt hbn'
  have hvl : ∀ q, vi.ownBlock = some q → q < z2 := fun q hq => by rw [← hz2]; exact HLi.out.lt q hq
  have hBl2 : Bn < z2 := by rw [← hz2]; exact Hbn.out.lt
  have h3z : z2 + 1 ≤ W3.heap.size ∧ W3.heap.size ≤ z2 + 1 := by omega
  obtain ⟨i0, hi, hzz0, hz1', hz2'⟩ := info_parts info23
  have HI0 := hid hi
  have HZ0 := hid hzz0
  have HB0 := hid hB0
  clear hEa hW3 hz2 hs3 hi hzz0 Hb0 Hb1 Hb2 hB0
  refine wpIn_rangeFunc_ownH rfl (by omega) (gf := 81) (lb := #[.pointer (some ⟨Bn, 0, none⟩)]) rfl trivial (enters_of Tryd.func81 (by kernel_rfl) rfl)
    (Vl.each_stops Fence.wide 13 trivial rfl (by omega) Bn vi LL (by omega) W3 hbn' hLi') Vl.klK_t (Vl.klK_b hBl (fun q hq => by have := hvl q hq; omega)) (Below.refl _ _) (fun _ => rfl)
    (fun pre W => (∃ v, Boxed W z2 22 v ∧ W.ownsRow z2 23 1 v pre.length (vw pre) ∧ True) ∧ Below z2 w2 W)
    (fun _ _ _ => False)
    (OwnFrom.and (Own.from (holdsRow_own z2 z2 22 23 1 (fun pre : List Nat => pre.length) (fun pre : List Nat => vw pre) (fun _ _ => True)) _) (ownFrom_below (by have := HZ2.out; omega) (by omega)))
    (fun _ _ _ _ _ hs _ _ => hs)
    ⟨⟨_, bL, own_nil _ _ _ _, trivial⟩, HB0.out⟩
    (fun x a' _ => a' = { tmps := #[.slice a (3 + 17 * G) c, .int .u64 (h : Nat), .pointer (some ⟨z, 0, none⟩), undef, .pointer (some ⟨z + 1, 0, none⟩), .pointer (some ⟨z + 2, 0, none⟩), .func (.func 81) #[] #[.pointer (some ⟨Bn, 0, none⟩)], .int .i64 0, .pointer (some ⟨z2, 0, none⟩), .int .u64 (x : Nat), .tuple #[.func (.func 81) #[] #[.pointer (some ⟨Bn, 0, none⟩)], .int .i64 0], .slice a (3 + 17 * G) c, .slice (some ⟨g, 0, none⟩) (3 + 17 * G) cc, .int .u64 (h : Nat), .tuple #[.func (.func 81) #[] #[.pointer (some ⟨Bn, 0, none⟩)], .int .i64 0], .func (.func 81) #[] #[.pointer (some ⟨Bn, 0, none⟩)], .int .i64 0, .func (.func 81) #[] #[.pointer (some ⟨Bn, 0, none⟩)], .bool false, .func (.func 81) #[] #[.pointer (some ⟨Bn, 0, none⟩)], .int .u64 (x : Nat), undef, undef, undef, undef, undef, undef, undef, undef, undef, undef], defers := [] })
    (fun x a' _ X Y row hs hg hr => hs)
    ?assign ?body ?done ?stop
  case assign =>
    rintro l pre x W K hI hK
    gi_wp2
    exact hK _ _ (KeepsFrom.refl _ _) (Vl.Kl.refl _ _ _) hI rfl
  case stop =>
    rintro D cd pre W _ _ h _
    exact h.elim
  case body =>
    rintro l pre x a' W hl ⟨r, hr⟩ ⟨⟨v, bC1, hrow, _⟩, hB1⟩ rfl hlt
    have hc := bC1.cell
    have hpl : pre.length + 1 ≤ 8 * G := by omega
    have hpl6 : ¬ (3 + 17 * (G : Int) < (pre.length : Int) + 1) := by omega
    have hxr : ∀ (j : Nat) (u : Value), [Value.int .u64 (x : Nat)][j]? = some u → (W.alloc (.cells #[.int .u64 (x : Nat)] 23)).cell? ((⟨W.heap.size, 0, none⟩ : Addr).add j) = some u := fun j u hu => by
      rw [Addr.add_lit, cell_of_row _ _ _ _ _ _ (heap_alloc_new W _), Nat.zero_add, ← hu]; simp
    have HX := hid hxr
    have HC1 := hid bC1
    have Hrow := hid hrow
    have HB1 := hid hB1
    have hWs : z2 ≤ W.heap.size := by have := hB1.size; have := HZ2.out; omega
    have HTz := hid (show Boxed W z 22 (.slice a (3 + 17 * G) c) from (hB1.block z (by omega)).trans Ht0.out)
    have hzl : z < z2 := by omega
    clear bC1 hrow hB1 hxr hr bL hbn' hLi'
    gi_wp2_with (gi_at_builtin; refine wpListIn_append_own _ rfl _ _ 22 rfl z2 23 i0 _ 1 8 Tryd.underlying22 HI0.out HZ0.out hz1' hz2' rfl (by decide) _ _ _ rfl (Hrow.out.alloc _) ⟨W.heap.size, 0, none⟩ 1 1 [.int .u64 (x : Nat)] rfl rfl HX.out (by simp [Value.oneCell']) (by unfold maxLen; omega) (by omega) (by simp; omega) ?_; intro v' w3 hown' hgrow _; obtain ⟨g', cap', rfl⟩ := ownsRow_succ hown'; obtain ⟨hv1, hv2, hr2, hk2, hb2⟩ := HC1.out.appended (by decide) Hrow.out hWs (Nat.le_refl _) hown' hgrow; have hc1 := hv1.cell; have hf1 := hv1.frozen; have hc2 := hv2.cell; have hcT := Boxed.cell (show Boxed _ z 22 _ from (hb2.block _ hzl).trans HTz.out))
    refine ⟨hk2.from _, Vl.Kl.of_below hb2 hBl2 hvl, ⟨_, hv2, ?_⟩, HB1.out.trans hb2⟩
    rw [vw_append, List.length_append]
    exact hr2
  case done =>
    rintro D zs W hD rfl ⟨⟨v, bC1, hrow, _⟩, hB1⟩ hK
    obtain ⟨av, cv, rfl, _⟩ := own_slice hrow
    have hc := bC1.cell
    have bR1 : Boxed W (z + 1) 22 (.slice none 0 0) := (hB1.block _ (by omega)).trans Ht1.out
    have bO1 : Boxed W (z + 2) 4 (.bool false) := (hB1.block _ (by omega)).trans Ht2.out
    have cR := bR1.cell
    have fR := bR1.frozen
    have hx1 := Ext.setCell [z + 1] W ⟨z + 1, 0, none⟩ (.slice av zs.length cv) (by simp)
    have bO1' : Boxed (W.setCell ⟨z + 1, 0, none⟩ (.slice av zs.length cv)) (z + 2) 4 (.bool false) := hx1.keep bO1 (by simp)
    have cO := bO1'.cell
    have fO := bO1'.frozen
    have HB1 := hid hB1
    have HK := hid hK
    have HR1 := hid bR1
    have HO1 := hid bO1'
    have Hrow := hid hrow
    have HD := hid hD
    have Hx1 := hid hx1
    clear hB1 hK bR1 bO1 bO1' hrow bC1 hD hx1
    gi_wp2_with fail
    have hK2 := ((KeepsOthers.setCell W ⟨z + 1, 0, none⟩ (.slice av zs.length cv)).trans (KeepsOthers.setCell _ ⟨z + 2, 0, none⟩ (.bool true))).same _ _ HK.out rfl
    refine ⟨by simp, .inl ⟨_, _, rfl, run_takeDeferred hK2, ?_⟩⟩
    have hP := grownBy_putObj' ((W.setCell ⟨z + 1, 0, none⟩ (.slice av zs.length cv)).setCell ⟨z + 2, 0, none⟩ (.bool true)) D (.deferred none)
    have hx2 := Ext.setCell [z + 2] (W.setCell ⟨z + 1, 0, none⟩ (.slice av zs.length cv)) ⟨z + 2, 0, none⟩ (.bool true) (by simp)
    have hx3 := Ext.grown (S := [D]) hP (by simp)
    have hD2 := HD.out
    have hr1 : Boxed _ _ _ _ := hx3.keep (hx2.keep (HR1.out.set (.slice av zs.length cv)) (by simp)) (by simp; omega)
    have hr2 : Boxed _ _ _ _ := hx3.keep (HO1.out.set (.bool true)) (by simp; omega)
    have hw2 : Ext [] w2 W := by have h := HB1.out; rw [← HZ2.out] at h; exact below_ext h
    have hE : Ext [] w W := (HE0.out.trans HX2.out).trans hw2
    have hol := own_lt Hrow.out
    have hzw := HZ.out
    refine ⟨_, results_cells2' rfl _ _ ⟨z + 1, 0, none⟩ ⟨z + 2, 0, none⟩ _ _ rfl rfl (load22' hr1) (load4 hr2), _, rfl, ?_, ?_⟩
    · have h1 := own_keep Hrow.out Hx1.out (by simp; intro h; have := hol _ h; omega)
      have h2 := own_keep h1 hx2 (by simp; intro h; have := hol _ h; omega)
      have h3 := own_keep h2 hx3 (by
        intro b hb
        simp at hb
        subst hb
        intro h
        rcases h2.2 with ⟨h0, _⟩ | ⟨g, cap, cur, h0, _, hg, _⟩
        · rw [h0] at h; simp [Value.ownBlock] at h
        · rw [h0] at h
          simp [Value.ownBlock] at h
          subst h
          rw [hK2] at hg
          simp at hg)
      exact own_base h3 (by omega)
    · exact ((hE.on Hx1.out (by simp; omega)).on hx2 (by simp; omega)).on hx3 (by simp; omega)
end Go.Proofs.YtkknadkcpndnaaaDoor
