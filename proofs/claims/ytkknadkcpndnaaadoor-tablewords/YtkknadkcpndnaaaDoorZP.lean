/-
  Fou, Prs, Grw: joined by program; no statement is proved here.
-/
import Derived.Test.YtkknadkcpndnaaaDoorZG
import Derived.Test.YtkknadkcpndnaaaDoorZE
import Derived.Test.YtkknadkcpndnaaaDoorZJ
import Derived.Test.YtkknadkcpndnaaaDoorZI
/-
  The statements' own 'found': the list that Find gives; no statement is proved here.
-/
namespace Go.Proofs.YtkknadkcpndnaaaDoor
open Go.RowKit Go.Shelf
open Pr (Gp GpI sq pl)
attribute [local go_sem] Oper.semAt_some run_store_func

namespace Vl
def Lst (w : World) (v : Value) (L : List Nat) : Prop := w.ownsRow 0 23 1 v L.length (vw L)
theorem Lst.keep {S : List Nat} {w w' : World} {v : Value} {L : List Nat} (h : Lst w v L) (x : Ext S w w') (hs : ∀ b ∈ S, v.ownBlock ≠ some b) : Lst w' v L := own_keep h x hs
theorem Lst.keep0 {w w' : World} {v : Value} {L : List Nat} (h : Lst w v L) (x : Ext [] w w') : Lst w' v L := own_keep0 h x
theorem lst_nil (w : World) : Lst w (.slice none 0 0) [] := own_nil _ _ _ _
theorem Lst.slice {w : World} {v : Value} {L : List Nat} (h : Lst w v L) : ∃ a c, v = .slice a L.length c ∧ L.length ≤ c := own_slice h
theorem Lst.lt {w : World} {v : Value} {L : List Nat} (h : Lst w v L) : ∀ g, v.ownBlock = some g → g < w.heap.size := fun g hg => (own_lt h g hg).2

/-- What a loop's round must keep: the box of the iterator's list, and the list. -/
structure Kl (Bn : Nat) (v : Value) (A B : World) : Prop where
  box : ∀ o, A.heap[Bn]? = some o → B.heap[Bn]? = some o
  row : ∀ g, v.ownBlock = some g → ∀ o, A.heap[g]? = some o → B.heap[g]? = some o

theorem Kl.refl (Bn : Nat) (v : Value) (A : World) : Kl Bn v A A := ⟨fun _ h => h, fun _ _ _ h => h⟩
theorem Kl.trans {Bn : Nat} {v : Value} {A B C : World} (h : Kl Bn v A B) (k : Kl Bn v B C) : Kl Bn v A C :=
  ⟨fun o ho => k.box o (h.box o ho), fun g hg o ho => k.row g hg o (h.row g hg o ho)⟩
theorem Kl.lst {Bn : Nat} {v : Value} {A B : World} (h : Kl Bn v A B) {L : List Nat} (hl : Lst A v L) : Lst B v L := by
  refine ⟨hl.1, ?_⟩
  rcases hl.2 with q | ⟨g, cap, cur, rfl, h1, h2, h3⟩
  · exact .inl q
  · exact .inr ⟨g, cap, cur, rfl, h1, h.row g rfl _ h2, h3⟩
theorem Kl.boxed {Bn : Nat} {v : Value} {A B : World} (h : Kl Bn v A B) {t : TypeId} {u : Value} (hb : Boxed A Bn t u) : Boxed B Bn t u := h.box _ hb
theorem Kl.of_ext {Bn : Nat} {v : Value} {A B : World} {S : List Nat} (x : Ext S A B) (h1 : Bn ∉ S) (h2 : ∀ g, v.ownBlock = some g → g ∉ S) : Kl Bn v A B :=
  ⟨fun _ ho => x.keep ho h1, fun g hg _ ho => x.keep ho (h2 g hg)⟩
theorem Kl.of_ext0 {Bn : Nat} {v : Value} {A B : World} (x : Ext [] A B) : Kl Bn v A B := Kl.of_ext x (by simp) (by simp)
theorem klK_b {Bn : Nat} {v : Value} {w : World} (h1 : Bn < w.heap.size) (h2 : ∀ g, v.ownBlock = some g → g < w.heap.size) (W : World) (l : Nat) (o o' : Obj) (hl : w.heap.size ≤ l) (_ : W.heap[l]? = some o) (_ : o.isCells = false) (_ : o.isWalk = false) : Kl Bn v W (W.putObj l o') :=
  ⟨fun _ ho => (World.putObj_heap_other (by omega)).trans ho, fun g hg _ ho => (World.putObj_heap_other (by have := h2 g hg; omega)).trans ho⟩
theorem klK_t {Bn : Nat} {v : Value} {A B C : World} (h : Kl Bn v A B) (k : Kl Bn v B C) : Kl Bn v A C := h.trans k
theorem Kl.of_below {Bn n₀ : Nat} {v : Value} {A B : World} (h : Below n₀ A B) (h1 : Bn < n₀) (h2 : ∀ g, v.ownBlock = some g → g < n₀) : Kl Bn v A B :=
  ⟨fun _ ho => (h.block _ h1).trans ho, fun g hg _ ho => (h.block g (h2 g hg)).trans ho⟩

set_option maxRecDepth 100000 in
set_option maxHeartbeats 2000000 in
/-- The iterator's body, for every loop body that keeps the iterator's list. -/
theorem each1_in (F : Fence) (n : Nat) (h81 : F.fn 81) (hro : F.round = none) (hn : 1 ≤ n) (l Bn : Nat) (v : Value) (L : List Nat) (hlen : L.length ≤ 1000000) (J Jx : List Nat → World → Prop)
    (hY : ∀ pre x W, J pre W → pre.length < L.length → YieldAt F (n - 1) Tryd.prog l #[.int .u64 (x : Nat)] W fun e W' =>
      (e = .returned (.bool true) ∧ J (pre ++ [x]) W' ∧ Kl Bn v W W') ∨ (e = .returned (.bool false) ∧ Jx (pre ++ [x]) W'))
    (W : World) (hBn : Boxed W Bn 22 v) (hL : Lst W v L) (h0 : J [] W) :
    CallsIn F n Tryd.prog 81 #[.func (.yield l) #[] #[], .pointer (some ⟨Bn, 0, none⟩)] W fun e W' => (∃ v, e = .returned v) ∧
      ((∃ ys, ys = L ∧ J ys W') ∨ (∃ pre, pre <+: L ∧ Jx pre W')) := by
  obtain ⟨a, c, rfl, _⟩ := hL.slice
  have hc := hBn.cell
  have hbl := hBn.lt
  refine callsIn_of_wp Tryd.func81 rfl h81 ?_ hro
  simp only [Tryd.ntmps81, List.size_toArray, List.length_cons, List.length_nil, Nat.reduceAdd, Nat.reduceSub, Array.replicate_succ, Array.replicate_zero, List.push_toArray, List.append_toArray, List.nil_append, List.cons_append]
  have HL := hid hL
  have HB := hid hBn
  clear hL hBn
  gi_wp2
  gi_loopw [7] (fun q wr => ∃ k : Nat, q = .int .i64 k ∧ k ≤ L.length ∧ Lst wr (.slice a L.length c) L ∧ Boxed wr Bn 22 (.slice a L.length c) ∧ J (L.take k) wr) (fun q _ => (L.length - (intOf q)).toNat)
  case atStart => exact ⟨0, rfl, Nat.zero_le _, HL.out, HB.out, by simpa using h0⟩
  case round =>
    clear HL HB
    obtain ⟨k, rfl, hk, hL, hB, hJk⟩ := hrel
    have HL := hid hL
    have HB := hid hB
    clear hB hL
    by_cases hlt : k < L.length
    · obtain ⟨b, o, rfl, hcc⟩ := (show Wd wr a L from own_vs HL.out).at_ (by rintro rfl; simp at hlt)
      have c0 := hcc k hlt
      clear hcc
      have HM : Hid (L.take k ++ [L.getD k 0] = L.take (k + 1)) := by
        show _ = _
        rw [List.take_add_one]; simp [hlt]
      generalize L.getD k 0 = x at *
      obtain ⟨fn, tmps, assign, body, hy, hR⟩ := hY (L.take k) x _ hJk (by simp; omega)
      gi_wp2
      refine hR.mono ?_
      rintro e W3 (⟨rfl, hJ3, hk3⟩ | ⟨rfl, hJx3⟩)
      · have HL3 := hid (hk3.lst HL.out)
        have HB3 := hid (hk3.boxed HB.out)
        gi_wp2
        go_roundw
        case rel => exact ⟨k + 1, by go_num, by omega, HL3.out, HB3.out, by rw [← HM.out]; exact hJ3⟩
        case measure => simp [intOf]; omega
      · gi_wp2
        refine bodyPost_ret (results_none rfl _ _ _) rfl ?_
        exact ⟨⟨_, rfl⟩, .inr ⟨_, by rw [HM.out]; exact List.take_prefix _ _, hJx3⟩⟩
    · obtain rfl : k = L.length := by omega
      gi_wp2
      go_end0
      exact ⟨⟨_, rfl⟩, .inl ⟨L, rfl, by rwa [List.take_length] at hJk⟩⟩

/-- The iterator's contract. -/
theorem each_stops (F : Fence) (n : Nat) (h81 : F.fn 81) (hro : F.round = none) (hn : 1 ≤ n) (Bn : Nat) (v : Value) (L : List Nat) (hlen : L.length ≤ 1000000) (w : World) (hB : Boxed w Bn 22 v) (hL : Lst w v L) :
    SeqStopsK F n Tryd.prog 81 #[.pointer (some ⟨Bn, 0, none⟩)] (fun x : Nat => #[Value.int .u64 (x : Nat)]) (Kl Bn v) (fun ys => ys = L) (fun pre => pre <+: L) L.length w := fun l J Jx W hW _ _ hY h0 =>
  each1_in F n h81 hro hn l Bn v L hlen J Jx hY W ((below_ext hW).keep hB (by simp)) (hL.keep0 (below_ext hW)) h0

end Vl
theorem eql_func_nil (w : World) (gf : FuncId) (lb : Array Value) : (binOp .eql 62 (.func (.func gf) #[] lb) .nilFunc).run Tryd.prog w = .ok (.bool false) w := by
  have h : ∀ d, (Op.equalIn (d + 1) 62 (.func (.func gf) #[] lb) .nilFunc).run Tryd.prog w = .ok false w := fun d => by simp [Op.equalIn, run_underlying Tryd.underlying62]
  simp only [binOp]
  simp [Op.equal, Op.maxDepth, h 9999]
theorem load22' {w : World} {g : Nat} {v : Value} (h : Boxed w g 22 v) : (loadVar 22 ⟨g, 0, none⟩).run Tryd.prog w = .ok v w := by
  have := h.cell
  simp [go_sem, this]
theorem results_cells2' {P : Program} {fn : Func} {p q : Tmp} {ty ty' : TypeId} (h : fn.results = #[.cell p ty, .cell q ty']) (tmps : Array Value) (w : World) (a b : Addr) (v v' : Value)
    (hp : tmps.getD p undef = .pointer (some a)) (hq : tmps.getD q undef = .pointer (some b)) (h1 : (loadVar ty a).run P w = .ok v w) (h2 : (loadVar ty' b).run P w = .ok v' w) : (results fn tmps).run P w = .ok (.tuple #[v, v']) w := by
  have hp' : tmps[p]?.getD undef = .pointer (some a) := by simpa using hp
  have hq' : tmps[q]?.getD undef = .pointer (some b) := by simpa using hq
  simp [results, h, hp', hq', asAddr, h1, h2]
def FoPost (w : World) (L : List Nat) (e : Ending) (w' : World) : Prop := ∃ v, e = .returned (.tuple #[v, .bool true]) ∧ w'.ownsRow w.heap.size 23 1 v L.length (vw L) ∧ Ext [] w w'

set_option maxRecDepth 100000 in
set_option maxHeartbeats 4000000 in
theorem found_any (a : Option Addr) (c : Nat) (T : List Nat) (G h : Nat) (hSd : Sd T G) (hh : h < 18446744073709551616) (w : World) (hT : Wd w a T) (hTb : Tb w) :
    Calls Tryd.prog 14 #[.slice a (3 + 17 * G) c, .int .u64 (h : Nat)] w (FoPost w (fnd T h G)) := by
  have hlen := hSd.shp.len
  have hG := hSd.shp.gp.le
  have hml : (fnd T h G).length ≤ 8 * G := by unfold fnd; rw [List.length_map]; exact mts_len hSd.shp.gp
  refine (callsIn_wide (n := 14)).1 ?_
  refine callsIn_of_wp_marks Tryd.func14 rfl trivial ?_ rfl
  simp only [Tryd.ntmps14, List.size_toArray, List.length_cons, List.length_nil, Nat.reduceAdd, Nat.reduceSub, Array.replicate_succ, Array.replicate_zero, List.push_toArray, List.append_toArray, List.nil_append, List.cons_append]
  obtain ⟨z, hz⟩ : ∃ z, w.heap.size = z := ⟨_, rfl⟩
  obtain ⟨W0, hW0⟩ : ∃ W0, ((w.alloc (.cells #[.slice a (3 + 17 * G) c] 22)).alloc (.cells #[.slice none 0 0] 22)).alloc (.cells #[.bool false] 4) = W0 := ⟨_, rfl⟩
  have hE0 : Ext [] w W0 := by rw [← hW0]; exact ((Ext.alloc [] _ _).trans (Ext.alloc [] _ _)).trans (Ext.alloc [] _ _)
  have b0 : Boxed W0 z 22 (.slice a (3 + 17 * G) c) := by rw [← hW0, ← hz]; exact ((Boxed.new w 22 _).alloc _).alloc _
  have b1 : Boxed W0 (z + 1) 22 (.slice none 0 0) := by
    have := (Boxed.new (w.alloc (.cells #[.slice a (3 + 17 * G) c] 22)) 22 (.slice none 0 0)).alloc (.cells #[.bool false] 4)
    rw [hW0, World.size_alloc, hz] at this; exact this
  have b2 : Boxed W0 (z + 2) 4 (.bool false) := by
    have := Boxed.new ((w.alloc (.cells #[.slice a (3 + 17 * G) c] 22)).alloc (.cells #[.slice none 0 0] 22)) 4 (.bool false)
    rw [hW0, World.size_alloc, World.size_alloc, hz] at this; exact this
  have cZ := b0.cell
  have K0 := ownT_any a (3 + 17 * G) c T W0 (hT.keep0 hE0) (by omega) (by omega) (by omega)
  have HE0 := hid hE0
  have Hb0 := hid b0
  have Hb1 := hid b1
  have Hb2 := hid b2
  have HTb0 := hid (hTb.keep0 hE0)
  have HSd := hid hSd
  have HZ := hid hz
  clear hE0 b0 b1 b2 hT hTb hSd hlen
  generalize hLL : fnd T h G = LL at *
  gi_wp2_with fail
  try rw [hW0]
  try simp only [hz]
  simp only [show z + 1 + 1 = z + 2 from rfl]
  clear hW0 hz
  refine ⟨trivial, ?_⟩
  gi_at_call 12
  refine (callsIn_wide.2 K0).mono ?_
  clear K0 cZ
  rintro _ w1 ⟨g, cc, rfl, hTw, hg, hX1⟩
  have K1 := find_any (some ⟨g, 0, none⟩) cc T G h HSd.out hh w1 hTw.wd (HTb0.out.keep0 hX1)
  rw [hLL] at K1
  have HX1 := hid hX1
  clear hX1 hTw hg
  gi_wp2_with fail
  refine ⟨trivial, ?_⟩
  gi_at_call 32
  refine (callsIn_wide.2 K1).mono ?_
  clear K1
  rintro _ w2 ⟨Bn, vi, rfl, hbn, hon, hBn, hX2⟩
  have hfn := fun W => eql_func_nil W 81 #[.pointer (some ⟨Bn, 0, none⟩)]
  have HX2 := hid (HX1.out.trans hX2)
  have hLi : Vl.Lst w2 vi LL := own_base hon (Nat.zero_le _)
  have HLi := hid hLi
  have Hbn := hid hbn
  clear hX2 HX1 hon hbn hLi hBn
  gi_wp2_with fail
  clear hfn
  have hEa := Ext.alloc [] w2 (.cells #[.slice none 0 0] 22)
  have hbn' := hEa.keep Hbn.out (by simp)
  have hLi' := HLi.out.keep0 hEa
  have bL := Boxed.new w2 22 (.slice none 0 0)
  have hB0 := hEa.below
  have hs3 : (w2.alloc (.cells #[.slice none 0 0] 22)).heap.size = w2.heap.size + 1 := by simp
  obtain ⟨z2, hz2⟩ : ∃ z2, w2.heap.size = z2 := ⟨_, rfl⟩
  obtain ⟨W3, hW3⟩ : ∃ W3, w2.alloc (.cells #[.slice none 0 0] 22) = W3 := ⟨_, rfl⟩
  rw [hW3] at hbn' hLi' bL hB0 hs3 ⊢
  rw [hz2] at bL hB0 hs3 ⊢
  have HZ2 := hid hz2
  have Ht0 := hid (show Boxed w2 z 22 _ from HX2.out.keep Hb0.out (by simp))
  have Ht1 := hid (show Boxed w2 (z + 1) 22 _ from HX2.out.keep Hb1.out (by simp))
  have Ht2 := hid (show Boxed w2 (z + 2) 4 _ from HX2.out.keep Hb2.out (by simp))
  have hzz2 : z + 2 < z2 := by rw [← hz2]; exact Ht2.out.lt
  have hBl : Bn < W3.heap.size := Boxed.lt hbn'
  have hvl : ∀ q, vi.ownBlock = some q → q < z2 := fun q hq => by rw [← hz2]; exact HLi.out.lt q hq
  have hBl2 : Bn < z2 := by rw [← hz2]; exact Hbn.out.lt
  have h3z : z2 + 1 ≤ W3.heap.size ∧ W3.heap.size ≤ z2 + 1 := by omega
  obtain ⟨i0, hi, hzz0, hz1', hz2'⟩ := info_parts info23
  have HI0 := hid hi
  have HZ0 := hid hzz0
  have HB0 := hid hB0
  clear hEa hW3 hz2 hs3 hi hzz0 Hb0 Hb1 Hb2 hB0
  refine wpIn_rangeFunc_ownH rfl (by omega) (gf := 81) (lb := #[.pointer (some ⟨Bn, 0, none⟩)]) rfl trivial (enters_of Tryd.func81 (by kernel_rfl) rfl)
    (Vl.each_stops Fence.wide 13 trivial rfl (by omega) Bn vi LL (by omega) W3 hbn' hLi') Vl.klK_t (Vl.klK_b hBl (fun q hq => by have := hvl q hq; omega)) (Below.refl _ _) (fun _ => rfl)
    (fun pre W => (∃ v, Boxed W z2 22 v ∧ W.ownsRow z2 23 1 v pre.length (vw pre) ∧ True) ∧ Below z2 w2 W)
    (fun _ _ _ => False)
    (OwnFrom.and (Own.from (holdsRow_own z2 z2 22 23 1 (fun pre : List Nat => pre.length) (fun pre : List Nat => vw pre) (fun _ _ => True)) _) (ownFrom_below (by have := HZ2.out; omega) (by omega)))
    (fun _ _ _ _ _ hs _ _ => hs)
    ⟨⟨_, bL, own_nil _ _ _ _, trivial⟩, HB0.out⟩
    (fun x a' _ => a' = { tmps := #[.slice a (3 + 17 * G) c, .int .u64 (h : Nat), .pointer (some ⟨z, 0, none⟩), undef, .pointer (some ⟨z + 1, 0, none⟩), .pointer (some ⟨z + 2, 0, none⟩), .func (.func 81) #[] #[.pointer (some ⟨Bn, 0, none⟩)], .int .i64 0, .pointer (some ⟨z2, 0, none⟩), .int .u64 (x : Nat), .tuple #[.func (.func 81) #[] #[.pointer (some ⟨Bn, 0, none⟩)], .int .i64 0], .slice a (3 + 17 * G) c, .slice (some ⟨g, 0, none⟩) (3 + 17 * G) cc, .int .u64 (h : Nat), .tuple #[.func (.func 81) #[] #[.pointer (some ⟨Bn, 0, none⟩)], .int .i64 0], .func (.func 81) #[] #[.pointer (some ⟨Bn, 0, none⟩)], .int .i64 0, .func (.func 81) #[] #[.pointer (some ⟨Bn, 0, none⟩)], .bool false, .func (.func 81) #[] #[.pointer (some ⟨Bn, 0, none⟩)], .int .u64 (x : Nat), undef, undef, undef, undef, undef, undef, undef, undef, undef, undef], defers := [] })
    (fun x a' _ X Y row hs hg hr => hs)
    ?assign ?body ?done ?stop
  case assign =>
    rintro l pre x W K hI hK
    gi_wp2
    exact hK _ _ (KeepsFrom.refl _ _) (Vl.Kl.refl _ _ _) hI rfl
  case stop =>
    rintro D cd pre W _ _ h _
    exact h.elim
  case body =>
    rintro l pre x a' W hl ⟨r, hr⟩ ⟨⟨v, bC1, hrow, _⟩, hB1⟩ rfl hlt
    have hc := bC1.cell
    have hpl : pre.length + 1 ≤ 8 * G := by omega
    have hpl6 : ¬ (3 + 17 * (G : Int) < (pre.length : Int) + 1) := by omega
    have hxr : ∀ (j : Nat) (u : Value), [Value.int .u64 (x : Nat)][j]? = some u → (W.alloc (.cells #[.int .u64 (x : Nat)] 23)).cell? ((⟨W.heap.size, 0, none⟩ : Addr).add j) = some u := fun j u hu => by
      rw [Addr.add_lit, cell_of_row _ _ _ _ _ _ (heap_alloc_new W _), Nat.zero_add, ← hu]; simp
    have HX := hid hxr
    have HC1 := hid bC1
    have Hrow := hid hrow
    have HB1 := hid hB1
    have hWs : z2 ≤ W.heap.size := by have := hB1.size; have := HZ2.out; omega
    have HTz := hid (show Boxed W z 22 (.slice a (3 + 17 * G) c) from (hB1.block z (by omega)).trans Ht0.out)
    have hzl : z < z2 := by omega
    clear bC1 hrow hB1 hxr hr bL hbn' hLi'
    gi_wp2_with (gi_at_builtin; refine wpListIn_append_own _ rfl _ _ 22 rfl z2 23 i0 _ 1 8 Tryd.underlying22 HI0.out HZ0.out hz1' hz2' rfl (by decide) _ _ _ rfl (Hrow.out.alloc _) ⟨W.heap.size, 0, none⟩ 1 1 [.int .u64 (x : Nat)] rfl rfl HX.out (by simp [Value.oneCell']) (by unfold maxLen; omega) (by omega) (by simp; omega) ?_; intro v' w3 hown' hgrow _; obtain ⟨g', cap', rfl⟩ := ownsRow_succ hown'; obtain ⟨hv1, hv2, hr2, hk2, hb2⟩ := HC1.out.appended (by decide) Hrow.out hWs (Nat.le_refl _) hown' hgrow; have hc1 := hv1.cell; have hf1 := hv1.frozen; have hc2 := hv2.cell; have hcT := Boxed.cell (show Boxed _ z 22 _ from (hb2.block _ hzl).trans HTz.out))
    refine ⟨hk2.from _, Vl.Kl.of_below hb2 hBl2 hvl, ⟨_, hv2, ?_⟩, HB1.out.trans hb2⟩
    rw [vw_append, List.length_append]
    exact hr2
  case done =>
    rintro D zs W hD rfl ⟨⟨v, bC1, hrow, _⟩, hB1⟩ hK
    obtain ⟨av, cv, rfl, _⟩ := own_slice hrow
    have hc := bC1.cell
    have bR1 : Boxed W (z + 1) 22 (.slice none 0 0) := (hB1.block _ (by omega)).trans Ht1.out
    have bO1 : Boxed W (z + 2) 4 (.bool false) := (hB1.block _ (by omega)).trans Ht2.out
    have cR := bR1.cell
    have fR := bR1.frozen
    have hx1 := Ext.setCell [z + 1] W ⟨z + 1, 0, none⟩ (.slice av zs.length cv) (by simp)
    have bO1' : Boxed (W.setCell ⟨z + 1, 0, none⟩ (.slice av zs.length cv)) (z + 2) 4 (.bool false) := hx1.keep bO1 (by simp)
    have cO := bO1'.cell
    have fO := bO1'.frozen
    have HB1 := hid hB1
    have HK := hid hK
    have HR1 := hid bR1
    have HO1 := hid bO1'
    have Hrow := hid hrow
    have HD := hid hD
    have Hx1 := hid hx1
    clear hB1 hK bR1 bO1 bO1' hrow bC1 hD hx1
    gi_wp2_with fail
    have hK2 := ((KeepsOthers.setCell W ⟨z + 1, 0, none⟩ (.slice av zs.length cv)).trans (KeepsOthers.setCell _ ⟨z + 2, 0, none⟩ (.bool true))).same _ _ HK.out rfl
    refine ⟨by simp, .inl ⟨_, _, rfl, run_takeDeferred hK2, ?_⟩⟩
    have hP := grownBy_putObj' ((W.setCell ⟨z + 1, 0, none⟩ (.slice av zs.length cv)).setCell ⟨z + 2, 0, none⟩ (.bool true)) D (.deferred none)
    have hx2 := Ext.setCell [z + 2] (W.setCell ⟨z + 1, 0, none⟩ (.slice av zs.length cv)) ⟨z + 2, 0, none⟩ (.bool true) (by simp)
    have hx3 := Ext.grown (S := [D]) hP (by simp)
    have hD2 := HD.out
    have hr1 : Boxed _ _ _ _ := hx3.keep (hx2.keep (HR1.out.set (.slice av zs.length cv)) (by simp)) (by simp; omega)
    have hr2 : Boxed _ _ _ _ := hx3.keep (HO1.out.set (.bool true)) (by simp; omega)
    have hw2 : Ext [] w2 W := by have h := HB1.out; rw [← HZ2.out] at h; exact below_ext h
    have hE : Ext [] w W := (HE0.out.trans HX2.out).trans hw2
    have hol := own_lt Hrow.out
    have hzw := HZ.out
    refine ⟨_, results_cells2' rfl _ _ ⟨z + 1, 0, none⟩ ⟨z + 2, 0, none⟩ _ _ rfl rfl (load22' hr1) (load4 hr2), _, rfl, ?_, ?_⟩
    · have h1 := own_keep Hrow.out Hx1.out (by simp; intro h; have := hol _ h; omega)
      have h2 := own_keep h1 hx2 (by simp; intro h; have := hol _ h; omega)
      have h3 := own_keep h2 hx3 (by
        intro b hb
        simp at hb
        subst hb
        intro h
        rcases h2.2 with ⟨h0, _⟩ | ⟨g, cap, cur, h0, _, hg, _⟩
        · rw [h0] at h; simp [Value.ownBlock] at h
        · rw [h0] at h
          simp [Value.ownBlock] at h
          subst h
          rw [hK2] at hg
          simp at hg)
      exact own_base h3 (by omega)
    · exact ((hE.on Hx1.out (by simp; omega)).on hx2 (by simp; omega)).on hx3 (by simp; omega)
end Go.Proofs.YtkknadkcpndnaaaDoor

/-
  All and the law's pairs; no statement is proved here.
-/
namespace Go.Proofs.YtkknadkcpndnaaaDoor
open Go.RowKit Go.Shelf
open Pr (Gp GpI sq pl)
attribute [local go_sem] Oper.semAt_some run_store_func wide_fn wide_depth

theorem wpListIn_append_run {F : Fence} {n : Nat} {P : Program} {w w' : World} {ops : Array Oper} {rest : List Oper} {o : Oper} {a : Act} {Q : Exit → Act → World → Prop} (hgd : o.guard = none) (s x : Operand) (t : TypeId)
    (ho : o.op = .call { callee := .builtin .append, args := #[s, x], argTypes := #[t, t] }) (vs vx v' : Value) (hs : a.eval s = vs) (hx : a.eval x = vx)
    (hr : (Builtin.append_ #[t, t] o.type #[vs, vx]).run P w = .ok v' w') (h : wpListIn F n P ops Q rest (a.put o.dst v') w') : wpListIn F n P ops Q (o :: rest) a w := by
  refine wpListIn_plain hgd fun K hK => ?_
  unfold Oper.wpIn
  refine ⟨by simp [Oper.about, ho, resolve, Target.leads, Sem.run_pure], ?_⟩
  rw [Oper.semAt_plain F _ _ (by rw [ho]; intro c hc'; cases hc')]
  simp [execOp, ho, resolve, invoke, builtin, hs, hx, hr, Result.andThen]
  exact hK _ _ h
/-- Two words more: the world behind append and store. -/
theorem gat_push2 {w1 W U : World} {z1 : Nat} {L : List Nat} {x y : Nat} {va : Option Addr} {n vc : Nat} (hn : L.length = n) (hw : w1.heap.size = z1) (hv : Boxed W z1 22 (.slice va n vc)) (ho : W.ownsRow z1 23 1 (.slice va n vc) n (vw L)) (hvn : ∀ q, (Value.slice va n vc).ownBlock = some q → z1 < q) (hB : Below z1 w1 W) (hU : Ext [] W U)
    (hx : U.cell? ⟨W.heap.size, 0, none⟩ = some (.int .u64 (x : Nat))) (hy : U.cell? ⟨W.heap.size, 1, none⟩ = some (.int .u64 (y : Nat))) (hl : n ≤ 1000000) :
    ∃ v' U', (Builtin.append_ #[22, 22] 22 #[.slice va n vc, .slice (some ⟨W.heap.size, 0, none⟩) 2 2]).run Tryd.prog U = .ok v' U' ∧ (∃ a' c', v' = .slice a' (n + 2) c') ∧ Boxed U' z1 22 (.slice va n vc) ∧ Gat w1 z1 (L ++ [x, y]) (U'.setCell ⟨z1, 0, none⟩ v') ∧ Kc (Obx z1) W (U'.setCell ⟨z1, 0, none⟩ v') ∧ KeepsOthers W (U'.setCell ⟨z1, 0, none⟩ v') ∧ Ext (z1 :: (Value.slice va n vc).ownBlock.toList) W (U'.setCell ⟨z1, 0, none⟩ v') ∧ Ext (Value.slice va n vc).ownBlock.toList W U' := by
  obtain ⟨i, hi0, hz0, hz1, hz2⟩ := info_parts info23
  have hz1l := hv.lt
  obtain ⟨v', U', hr, ho5, hg5, _, hn5⟩ := run_append_own_at (P := Tryd.prog) U z1 22 22 23 i _ 1 8 Tryd.underlying22 hi0 hz0 hz1 hz2 rfl (by decide) (.slice va n vc) n (vw L) (own_keep0 ho hU) ⟨W.heap.size, 0, none⟩ 2 2 [.int .u64 (x : Nat), .int .u64 (y : Nat)] rfl (fun j u2 hu2 => by
    cases j with
    | zero => rw [Addr.add_lit, Nat.zero_add, hx, ← hu2]; rfl
    | succ j =>
      cases j with
      | zero => rw [Addr.add_lit, Nat.zero_add, hy, ← hu2]; rfl
      | succ j => simp at hu2) (by simp [Value.oneCell']) (by unfold maxLen; omega) (by omega) (by have := hU.size; omega)
  have hx5 : Ext (Value.slice va n vc).ownBlock.toList W U' := (hU.mono (by simp)).trans (ext_grown hg5)
  have hzn : z1 ∉ (Value.slice va n vc).ownBlock.toList := by
    intro hm
    rw [Option.mem_toList] at hm
    have := hvn z1 hm
    omega
  have hbz : Boxed U' z1 22 (.slice va n vc) := hx5.keep hv hzn
  have hx6 := Ext.setCell [z1] U' ⟨z1, 0, none⟩ v' (by simp)
  have hvn5 : ∀ g, v'.ownBlock = some g → z1 < g := fun g hg => by
    rcases hn5 with q | q
    · rw [q] at hg; exact hvn g hg
    · rw [q] at hg; simp at hg; have := hU.size; omega
  obtain ⟨a5, c5, hv5, _⟩ := own_slice ho5
  have hxx : Ext (z1 :: (Value.slice va n vc).ownBlock.toList) W (U'.setCell ⟨z1, 0, none⟩ v') := (hx5.mono (by simp; intro a ha; exact .inr ha)).trans (hx6.mono (by simp))
  refine ⟨v', U', hr, ⟨a5, c5, hv5⟩, hbz, ⟨⟨v', hbz.set v', ?_, hvn5⟩, ?_⟩, kc_gat hv (hbz.set v') hxx ?_, ?_, hxx, hx5⟩
  · rw [List.length_append, vw_append, hn]
    exact own_keep ho5 hx6 (fun q hq hvv => by simp only [List.mem_singleton] at hq; have := hvn5 q hvv; omega)
  · refine hB.trans ⟨hxx.os, hxx.tape, hxx.output, hxx.size, fun k hk => hxx.block k (by omega) (fun q => ?_)⟩
    rcases List.mem_cons.1 q with e | q
    · omega
    · rw [Option.mem_toList] at q
      have := hvn k q
      omega
  · rcases hn5 with q | q
    · exact .inl q
    · right
      intro k hk
      rw [q] at hk
      simp at hk
      have := hU.size
      omega
  · refine ⟨hxx.size, fun k o hk ho' => hxx.keep hk (fun q => ?_)⟩
    rcases List.mem_cons.1 q with e | q
    · subst e; rw [show W.heap[k]? = _ from hv] at hk; cases hk; cases ho'
    · rw [Option.mem_toList] at q
      rcases ho.2 with ⟨e, _⟩ | ⟨g, cap, cur, e, _, hg, _⟩
      · rw [e] at q; simp [Value.ownBlock] at q
      · rw [e] at q; simp [Value.ownBlock] at q; subst q; rw [hg] at hk; cases hk; cases ho'
/-- Pairs laid one behind the other. -/
def flat2 (E : List (Nat × Nat)) : List Nat := E.flatMap fun p => [p.1, p.2]
theorem flat2_app (A B : List (Nat × Nat)) : flat2 (A ++ B) = flat2 A ++ flat2 B := by simp [flat2]
theorem flat2_len : ∀ E : List (Nat × Nat), (flat2 E).length = 2 * E.length
  | [] => rfl
  | p :: E => by
    have := flat2_len E
    simp only [flat2, List.flatMap_cons, List.length_append, List.length_cons, List.length_nil] at this ⊢
    omega
theorem eql_func_nil66 (w : World) (gf : FuncId) (lb : Array Value) : (binOp .eql 66 (.func (.func gf) #[] lb) .nilFunc).run Tryd.prog w = .ok (.bool false) w := by
  have h : ∀ d, (Op.equalIn (d + 1) 66 (.func (.func gf) #[] lb) .nilFunc).run Tryd.prog w = .ok false w := fun d => by simp [Op.equalIn, run_underlying Tryd.underlying66]
  simp only [binOp]
  simp [Op.equal, Op.maxDepth, h 9999]
def AlPost (w : World) (T : List Nat) (G : Nat) (e : Ending) (w' : World) : Prop := ∃ Bt g cc, e = .returned (.tuple #[.func (.func 78) #[] #[.pointer (some ⟨Bt, 0, none⟩)], .int .i64 0]) ∧ Boxed w' Bt 22 (.slice (some ⟨g, 0, none⟩) (3 + 17 * G) cc) ∧ Tw w' g T ∧ w.heap.size ≤ g ∧ w.heap.size ≤ Bt ∧ Ext [] w w'
theorem tall_any (b o c : Nat) (T : List Nat) (G : Nat) (hSd : Sd T G) (w : World) (hT : Wd w (some ⟨b, o, none⟩) T) : Calls Tryd.prog 33 #[.slice (some ⟨b, o, none⟩) (3 + 17 * G) c] w (AlPost w T G) := by
  have K0 := sound_true (some ⟨b, o, none⟩) c T G hSd w hT
  have hG := hSd.shp.gp.le
  have HT := hid hT
  have HL := hid hSd.shp.len
  clear hT hSd
  go_enter Tryd.func33, Tryd.ntmps33
  go_wp2_with fail
  refine K0.mono ?_
  clear K0
  rintro _ w1 ⟨rfl, hX1⟩
  have K1 := clone_any b o (3 + 17 * G) c T w1 (HT.out.keep0 hX1) HL.out (by omega) (by omega)
  have HX1 := hid hX1
  clear hX1
  go_wp2_with fail
  refine K1.mono ?_
  clear K1
  rintro _ w2 ⟨g, cc, rfl, hTw, hg, hX2⟩
  have K2 := entries_any (some ⟨g, 0, none⟩) (3 + 17 * G) cc w2
  have HX2 := hid (HX1.out.trans hX2)
  have HTw := hid hTw
  have hs1 := HX1.out.size
  clear hX2 hTw
  go_wp2_with fail
  refine K2.mono ?_
  clear K2
  rintro _ _ ⟨rfl, rfl⟩
  go_wp2
  go_ret2
  have hx := Ext.alloc [] w2 (.cells #[.slice (some ⟨g, 0, none⟩) (3 + 17 * G) cc] 22)
  exact ⟨_, g, cc, rfl, Boxed.new w2 22 _, HTw.out.keep0 hx, by omega, HX2.out.size, HX2.out.trans hx⟩

set_option maxRecDepth 100000 in
set_option maxHeartbeats 4000000 in
theorem pairs_any (a : Option Addr) (c : Nat) (T : List Nat) (G : Nat) (hSd : Sd T G) (w : World) (hT : Wd w a T) (hTb : Tb w) :
    Calls Tryd.prog 15 #[.slice a (3 + 17 * G) c] w (FoPost w (flat2 (ents T G))) := by
  have hlen := hSd.shp.len
  have hG := hSd.shp.gp.le
  have hml := ents_len T G
  refine (callsIn_wide (n := 14)).1 ?_
  refine callsIn_of_wp_marks Tryd.func15 rfl trivial ?_ rfl
  simp only [Tryd.ntmps15, List.size_toArray, List.length_cons, List.length_nil, Nat.reduceAdd, Nat.reduceSub, Array.replicate_succ, Array.replicate_zero, List.push_toArray, List.append_toArray, List.nil_append, List.cons_append]
  obtain ⟨z, hz⟩ : ∃ z, w.heap.size = z := ⟨_, rfl⟩
  obtain ⟨W0, hW0⟩ : ∃ W0, ((w.alloc (.cells #[.slice a (3 + 17 * G) c] 22)).alloc (.cells #[.slice none 0 0] 22)).alloc (.cells #[.bool false] 4) = W0 := ⟨_, rfl⟩
  have hE0 : Ext [] w W0 := by rw [← hW0]; exact ((Ext.alloc [] _ _).trans (Ext.alloc [] _ _)).trans (Ext.alloc [] _ _)
  have b0 : Boxed W0 z 22 (.slice a (3 + 17 * G) c) := by rw [← hW0, ← hz]; exact ((Boxed.new w 22 _).alloc _).alloc _
  have b1 : Boxed W0 (z + 1) 22 (.slice none 0 0) := by
    have := (Boxed.new (w.alloc (.cells #[.slice a (3 + 17 * G) c] 22)) 22 (.slice none 0 0)).alloc (.cells #[.bool false] 4)
    rw [hW0, World.size_alloc, hz] at this; exact this
  have b2 : Boxed W0 (z + 2) 4 (.bool false) := by
    have := Boxed.new ((w.alloc (.cells #[.slice a (3 + 17 * G) c] 22)).alloc (.cells #[.slice none 0 0] 22)) 4 (.bool false)
    rw [hW0, World.size_alloc, World.size_alloc, hz] at this; exact this
  have cZ := b0.cell
  have K0 := ownT_any a (3 + 17 * G) c T W0 (hT.keep0 hE0) (by omega) (by omega) (by omega)
  have HE0 := hid hE0
  have Hb0 := hid b0
  have Hb1 := hid b1
  have Hb2 := hid b2
  have HTb0 := hid (hTb.keep0 hE0)
  have HSd := hid hSd
  have HZ := hid hz
  clear hE0 b0 b1 b2 hT hTb hSd hlen
  gi_wp2_with fail
  try rw [hW0]
  try simp only [hz]
  simp only [show z + 1 + 1 = z + 2 from rfl]
  clear hW0 hz
  gi_at_call 12
  refine (callsIn_wide.2 K0).mono ?_
  clear K0 cZ
  rintro _ w1 ⟨g, cc, rfl, hTw, hg, hX1⟩
  have K1 := tall_any g 0 cc T G HSd.out w1 hTw.wd
  have HX1 := hid hX1
  have HTb1 := hid (HTb0.out.keep0 hX1)
  clear hX1 hTw hg
  gi_wp2_with fail
  gi_at_call 33
  refine (callsIn_wide.2 K1).mono ?_
  clear K1
  rintro _ w2 ⟨Bn, gB, cB, rfl, hbn, hTB, hgB, hBn, hX2⟩
  have hfn := fun W => eql_func_nil66 W 78 #[.pointer (some ⟨Bn, 0, none⟩)]
  have HX2 := hid (HX1.out.trans hX2)
  have HTb2 := hid (HTb1.out.keep0 hX2)
  have HTB := hid hTB
  have Hbn := hid hbn
  clear hX2 HX1 hbn hTB hBn hgB
  gi_wp2_with fail
  clear hfn
  have hEa := Ext.alloc [] w2 (.cells #[.slice none 0 0] 22)
  have hbn' := hEa.keep Hbn.out (by simp)
  have hTB' := HTB.out.keep0 hEa
  have hTb' := HTb2.out.keep0 hEa
  have bL := Boxed.new w2 22 (.slice none 0 0)
  have hB0 := hEa.below
  have hs3 : (w2.alloc (.cells #[.slice none 0 0] 22)).heap.size = w2.heap.size + 1 := by simp
  obtain ⟨z2, hz2⟩ : ∃ z2, w2.heap.size = z2 := ⟨_, rfl⟩
  obtain ⟨W3, hW3⟩ : ∃ W3, w2.alloc (.cells #[.slice none 0 0] 22) = W3 := ⟨_, rfl⟩
  rw [hW3] at hbn' hTB' hTb' bL hB0 hs3 ⊢
  rw [hz2] at bL hB0 hs3 ⊢
  have HZ2 := hid hz2
  have Ht0 := hid (show Boxed w2 z 22 _ from HX2.out.keep Hb0.out (by simp))
  have Ht1 := hid (show Boxed w2 (z + 1) 22 _ from HX2.out.keep Hb1.out (by simp))
  have Ht2 := hid (show Boxed w2 (z + 2) 4 _ from HX2.out.keep Hb2.out (by simp))
  have hzz2 : z + 2 < z2 := by rw [← hz2]; exact Ht2.out.lt
  have hBl2 : Bn < z2 := by rw [← hz2]; exact Hbn.out.lt
  have hgl2 : gB < z2 := by rw [← hz2]; exact HTB.out.lt
  have h3z : z2 + 1 ≤ W3.heap.size ∧ W3.heap.size ≤ z2 + 1 := by omega
  have hO3 : ∀ k ∈ [0, Bn, gB], ¬ Obx z2 W3 k := by
    rintro k hk (rfl | ⟨v, hv, hvo⟩)
    · simp at hk; omega
    · have : v = .slice none 0 0 := boxed_inj hv bL
      subst this
      simp [Value.ownBlock] at hvo
  obtain ⟨cs, hcs, hcs2⟩ := hTB'
  have HEnt := hid (entries_gives 13 (by omega) Bn gB 0 cB G T _ HSd.out.shp (Obx z2) W3 hbn' hcs rfl (Tw.wd ⟨cs, hcs, hcs2⟩) hTb' hO3)
  have HG0 := hid (show Gat w2 z2 (flat2 []) W3 from ⟨⟨_, bL, own_nil _ _ _ _, by simp [Value.ownBlock]⟩, hB0⟩)
  have HCal := hid (cal_gat (α := Nat × Nat) (w1 := w2) (z1 := z2) (B := W3.heap.size) (fun pre => flat2 pre) hz2 (by omega))
  clear hEa hW3 hz2 hs3 Hb0 Hb1 Hb2 hB0 hcs hcs2 hO3 bL hbn' hTb'
  refine loop_givesS rfl (by omega) (gf := 78) (lb := #[.pointer (some ⟨Bn, 0, none⟩)]) rfl trivial (enters_of Tryd.func78 (by kernel_rfl) rfl)
    HEnt.out (fun _ => rfl)
    (fun pre W => Gat w2 z2 (flat2 pre) W) (fun _ _ _ => False) HCal.out
    (fun _ => ⟨fun _ _ _ _ h _ _ => h, fun _ _ _ h => h.elim, fun _ _ _ _ _ h => h.elim⟩)
    HG0.out
    (fun x a' _ => a' = { tmps := #[.slice a (3 + 17 * G) c, .pointer (some ⟨z, 0, none⟩), .pointer (some ⟨z + 1, 0, none⟩), .pointer (some ⟨z + 2, 0, none⟩), .func (.func 78) #[] #[.pointer (some ⟨Bn, 0, none⟩)], .int .i64 0, .pointer (some ⟨z2, 0, none⟩), .int .u64 (x.1 : Nat), .int .u64 (x.2 : Nat), .tuple #[.func (.func 78) #[] #[.pointer (some ⟨Bn, 0, none⟩)], .int .i64 0], .slice a (3 + 17 * G) c, .slice (some ⟨g, 0, none⟩) (3 + 17 * G) cc, .tuple #[.func (.func 78) #[] #[.pointer (some ⟨Bn, 0, none⟩)], .int .i64 0], .func (.func 78) #[] #[.pointer (some ⟨Bn, 0, none⟩)], .int .i64 0, .func (.func 78) #[] #[.pointer (some ⟨Bn, 0, none⟩)], .bool false, .func (.func 78) #[] #[.pointer (some ⟨Bn, 0, none⟩)], .int .u64 (x.1 : Nat), .int .u64 (x.2 : Nat), undef, undef, undef, undef, undef, undef, undef, undef, undef, undef, undef], defers := [] }) (fun x a' _ X Y row hs hg hr => hs)
    ?assign ?body ?done ?stop
  case assign =>
    rintro l pre x W K _ hI hK
    unfold eenc
    gi_wp2
    exact hK _ _ (KeepsFrom.refl _ _) (Kc.refl _ _) hI rfl
  case stop =>
    rintro D cd pre W _ _ h _
    exact h.elim
  case body =>
    rintro l pre x a' W hl ⟨r, hr⟩ ⟨⟨v, hb, ho, hvn⟩, hB⟩ rfl hlt ⟨hxh, hxd⟩
    obtain ⟨xh, xd⟩ := x
    simp only at hxh hxd
    obtain ⟨va, vc, rfl, _⟩ := own_slice ho
    have HSn := hid (show flat2 (pre ++ [(xh, xd)]) = flat2 pre ++ [xh, xd] by rw [flat2_app]; rfl)
    have hlp := flat2_len pre
    obtain ⟨L, hL⟩ : ∃ L, flat2 pre = L := ⟨_, rfl⟩
    rw [hL] at ho hb hlp HSn
    simp only [hL] at hvn
    obtain ⟨ln, hln⟩ : ∃ ln, L.length = ln := ⟨_, rfl⟩
    rw [hln] at ho hb hlp
    simp only [hln] at hvn
    have hU := Ext.alloc [] W (.cells #[.int .u64 (xh : Nat), .int .u64 (xd : Nat)] 23)
    obtain ⟨v', U', hrun, ⟨a', c', hv'⟩, hbU, hgat, hkc, hko, hxx, hx5⟩ := gat_push2 (w1 := w2) (L := L) (x := xh) (y := xd) hln HZ2.out hb ho hvn hB hU (by rw [cell_of_row _ _ _ _ _ _ (heap_alloc_new W _)]; rfl) (by rw [cell_of_row _ _ _ _ _ _ (heap_alloc_new W _)]; rfl) (by omega)
    subst hv'
    have hcW := hb.cell
    have cU := hbU.cell
    have fU := hbU.frozen
    have hcN := (hbU.set (.slice a' (ln + 2) c')).cell
    have hWz : Boxed W z 22 (.slice a (3 + 17 * G) c) := (hB.block z (by omega)).trans Ht0.out
    have hcT : (U'.setCell ⟨z2, 0, none⟩ (.slice a' (ln + 2) c')).cell? ⟨z, 0, none⟩ = some (.slice a (3 + 17 * G) c) := hxx.cell hWz.cell (by
      intro q
      rcases List.mem_cons.1 q with e | q
      · simp at e; omega
      · rw [Option.mem_toList] at q
        have := hvn _ q
        simp at this; omega)
    have HF : Hid (KeepsFrom W3.heap.size W (U'.setCell ⟨z2, 0, none⟩ (.slice a' (ln + 2) c')) ∧ Kc (Obx z2) W (U'.setCell ⟨z2, 0, none⟩ (.slice a' (ln + 2) c')) ∧ Gat w2 z2 (flat2 (pre ++ [(xh, xd)])) (U'.setCell ⟨z2, 0, none⟩ (.slice a' (ln + 2) c'))) := by
      rw [HSn.out]
      exact ⟨hko.from _, hkc, hgat⟩
    have hpl6 : ¬ (3 + 17 * (G : Int) < (ln : Int) + 2) := by omega
    have hpl7 : decide (3 + 17 * (G : Int) < (ln : Int) + 2) = false := by simp; omega
    have hlnb : ln ≤ 1000000 := by omega
    clear hr hb ho hvn hB hU hgat hkc hko hxx hx5 hbU hln hL hlp hWz
    gi_wp2_with (gi_at_builtin; refine wpListIn_append_run rfl _ _ 22 rfl _ _ _ rfl rfl hrun ?_)
    exact HF.out
  case done =>
    rintro D zs W hD rfl ⟨⟨v, bC1, hrow, _⟩, hB1⟩ hK
    obtain ⟨LL, hLL⟩ : ∃ LL, flat2 (ents T G) = LL := ⟨_, rfl⟩
    rw [hLL] at hrow ⊢
    obtain ⟨av, cv, rfl, _⟩ := own_slice hrow
    have hc := bC1.cell
    have bR1 : Boxed W (z + 1) 22 (.slice none 0 0) := (hB1.block _ (by omega)).trans Ht1.out
    have bO1 : Boxed W (z + 2) 4 (.bool false) := (hB1.block _ (by omega)).trans Ht2.out
    have cR := bR1.cell
    have fR := bR1.frozen
    have hx1 := Ext.setCell [z + 1] W ⟨z + 1, 0, none⟩ (.slice av LL.length cv) (by simp)
    have bO1' : Boxed (W.setCell ⟨z + 1, 0, none⟩ (.slice av LL.length cv)) (z + 2) 4 (.bool false) := hx1.keep bO1 (by simp)
    have cO := bO1'.cell
    have fO := bO1'.frozen
    have HB1 := hid hB1
    have HK := hid hK
    have HR1 := hid bR1
    have HO1 := hid bO1'
    have Hrow := hid hrow
    have HD := hid hD
    have Hx1 := hid hx1
    clear hB1 hK bR1 bO1 bO1' hrow bC1 hD hx1
    gi_wp2_with fail
    have hK2 := ((KeepsOthers.setCell W ⟨z + 1, 0, none⟩ (.slice av LL.length cv)).trans (KeepsOthers.setCell _ ⟨z + 2, 0, none⟩ (.bool true))).same _ _ HK.out rfl
    refine ⟨by simp, .inl ⟨_, _, rfl, run_takeDeferred hK2, ?_⟩⟩
    have hP := grownBy_putObj' ((W.setCell ⟨z + 1, 0, none⟩ (.slice av LL.length cv)).setCell ⟨z + 2, 0, none⟩ (.bool true)) D (.deferred none)
    have hx2 := Ext.setCell [z + 2] (W.setCell ⟨z + 1, 0, none⟩ (.slice av LL.length cv)) ⟨z + 2, 0, none⟩ (.bool true) (by simp)
    have hx3 := Ext.grown (S := [D]) hP (by simp)
    have hD2 := HD.out
    have hr1 : Boxed _ _ _ _ := hx3.keep (hx2.keep (HR1.out.set (.slice av LL.length cv)) (by simp)) (by simp; omega)
    have hr2 : Boxed _ _ _ _ := hx3.keep (HO1.out.set (.bool true)) (by simp; omega)
    have hw2 : Ext [] w2 W := by have h := HB1.out; rw [← HZ2.out] at h; exact below_ext h
    have hE : Ext [] w W := (HE0.out.trans HX2.out).trans hw2
    have hol := own_lt Hrow.out
    have hzw := HZ.out
    refine ⟨_, results_cells2' rfl _ _ ⟨z + 1, 0, none⟩ ⟨z + 2, 0, none⟩ _ _ rfl rfl (load22' hr1) (load4 hr2), _, rfl, ?_, ?_⟩
    · have h1 := own_keep Hrow.out Hx1.out (by simp; intro h; have := hol _ h; omega)
      have h2 := own_keep h1 hx2 (by simp; intro h; have := hol _ h; omega)
      have h3 := own_keep h2 hx3 (by
        intro b hb
        simp at hb
        subst hb
        intro h
        rcases h2.2 with ⟨h0, _⟩ | ⟨g, cap, cur, h0, _, hg, _⟩
        · rw [h0] at h; simp [Value.ownBlock] at h
        · rw [h0] at h
          simp [Value.ownBlock] at h
          subst h
          rw [hK2] at hg
          simp at hg)
      try rw [hLL]
      refine own_base h3 ?_
      omega
    · exact ((hE.on Hx1.out (by simp; omega)).on hx2 (by simp; omega)).on hx3 (by simp; omega)
end Go.Proofs.YtkknadkcpndnaaaDoor

/-
  The statements' own helpers: times, SameWords, awake, grown; no statement is proved here.
-/
namespace Go.Proofs.YtkknadkcpndnaaaDoor
open Go.RowKit Go.Shelf
open Pr (Gp GpI sq pl)
attribute [local go_sem] Oper.semAt_some run_store_func

theorem count_take (L : List Nat) (d k : Nat) (hk : k < L.length) : (L.take (k + 1)).count d = (L.take k).count d + (if L.getD k 0 = d then 1 else 0) := by
  rw [List.take_add_one, List.count_append]
  simp [hk, List.count_singleton]
set_option maxRecDepth 10000 in
theorem times_any (a : Option Addr) (n c : Nat) (L : List Nat) (d : Nat) (w : World) (hL : Wd w a L) (hn : L.length = n) (hb : n ≤ 1000000) : Calls Tryd.prog 30 #[.slice a n c, .int .u64 (d : Nat)] w fun e w' => e = .returned (.int .i64 (L.count d : Nat)) ∧ w' = w := by
  have HC := hid (count_take L d)
  have HL := hid hL
  have HN := hid hn
  have HT : Hid ((L.take n).count d = L.count d) := by show _ = _; rw [List.take_of_length_le (by omega)]
  have HB : Hid (∀ k, (L.take k).count d ≤ k) := fun k => Nat.le_trans List.count_le_length (by simp; omega)
  clear hL hn
  go_enter Tryd.func30, Tryd.ntmps30
  go_wp2_with fail
  go_loopw [5, 6] (fun p q wr => ∃ k : Nat, q = .int .i64 k ∧ k ≤ n ∧ p = .int .i64 ((L.take k).count d : Nat) ∧ wr = w) (fun _ q _ => (n - (intOf q)).toNat)
  case atStart => exact ⟨0, rfl, Nat.zero_le _, by simp, rfl⟩
  case round =>
    obtain ⟨k, rfl, hk, rfl, rfl⟩ := hrel
    have hle := HB.out k
    by_cases hkn : k < n
    · have hki : (k : Int) < n := by omega
      obtain ⟨b, o, rfl, hc⟩ := HL.out.at_ (by intro e; have := HN.out; rw [e] at this; simp at this; omega)
      have ck := hc k (by rw [HN.out]; exact hkn)
      have hs := HC.out k (by rw [HN.out]; exact hkn)
      clear hc
      generalize (L.take k).count d = m at *
      generalize L.getD k 0 = x at *
      by_cases hx : x = d
      · have hx' : ((x : Int) == (d : Int)) = true := by simp [hx]
        rw [if_pos hx] at hs
        have Hs := hid hs
        clear hs
        go_wp2_with fail
        go_roundw
        case rel => exact ⟨k + 1, by go_num, by omega, by rw [Hs.out]; simp, trivial⟩
        case measure => simp [intOf]; omega
      · have hx' : ((x : Int) == (d : Int)) = false := by simp; omega
        rw [if_neg hx] at hs
        have Hs := hid hs
        clear hs
        go_wp2_with fail
        go_roundw
        case rel => exact ⟨k + 1, by go_num, by omega, by rw [Hs.out]; simp, trivial⟩
        case measure => simp [intOf]; omega
    · obtain rfl : k = n := by omega
      have ht := HT.out
      generalize (L.take k).count d = m at *
      subst ht
      go_wp2
      go_ret
      exact ⟨rfl, rfl⟩
set_option maxRecDepth 10000 in
theorem sameWords_true (a b : Option Addr) (n c d : Nat) (L : List Nat) (w : World) (ha : Wd w a L) (hb : Wd w b L) (hn : L.length = n) (hm : n ≤ 1000000) : Calls Tryd.prog 20 #[.slice a n c, .slice b n d] w (SayPost w (.bool true)) := by
  have HA := hid ha
  have HB := hid hb
  have HN := hid hn
  clear ha hb hn
  go_enter Tryd.func20, Tryd.ntmps20
  go_wp2_with fail
  go_loopw [5] (fun q wr => ∃ k : Nat, q = .int .i64 k ∧ k ≤ n ∧ Ext [] w wr) (fun q _ => (n - (intOf q)).toNat)
  case atStart => exact ⟨0, rfl, Nat.zero_le _, Ext.refl _ _⟩
  case round =>
    obtain ⟨k, rfl, hk, hX⟩ := hrel
    have HX := hid hX
    by_cases hkn : k < n
    · have hki : (k : Int) < n := by omega
      have hne : L ≠ [] := by intro e; have := HN.out; rw [e] at this; simp at this; omega
      obtain ⟨b1, o1, rfl, hc1⟩ := (HA.out.keep0 hX).at_ hne
      obtain ⟨b2, o2, rfl, hc2⟩ := (HB.out.keep0 hX).at_ hne
      have ck1 := hc1 k (by rw [HN.out]; exact hkn)
      have ck2 := hc2 k (by rw [HN.out]; exact hkn)
      clear hc1 hc2 hX
      generalize L.getD k 0 = x at *
      go_wp2_with (go_quiet (fail))
      go_roundw
      case rel => exact ⟨k + 1, by go_num, by omega, HX.out.trans (Ext.drewN [] _ _)⟩
      case measure => simp [intOf]; omega
    · obtain rfl : k = n := by omega
      clear hX
      go_wp2
      go_ret
      exact ⟨rfl, HX.out⟩
theorem gp1 : Gp 1 := ⟨0, by omega, rfl⟩
theorem gp2 : Gp 2 := ⟨1, by omega, rfl⟩
theorem awake_any (w : World) : Calls Tryd.prog 9 #[] w (SayPost w (.bool true)) := by
  have K := tnew_ok 1 gp1 w
  go_enter Tryd.func9, Tryd.ntmps9
  go_wp2_with fail
  refine K.mono ?_
  clear K
  rintro _ w1 ⟨g, c, rfl, _, _, hX⟩
  go_wp2
  go_ret
  exact ⟨rfl, hX⟩

/-- A script's calls: kind, groups, hash, id. -/
structure Opr where
  k : Int
  g : Int
  h : Nat
  d : Nat
def Scr (w : World) (a : Option Addr) (S : List Opr) : Prop := (∀ x ∈ S, x.h < 18446744073709551616 ∧ x.d < 18446744073709551616) ∧ (S = [] ∨ ∃ b o, a = some ⟨b, o, none⟩ ∧ ∀ j x, S[j]? = some x →
  w.cell? ⟨b, o + j * 4, none⟩ = some (.int .i64 x.k) ∧ w.cell? ⟨b, o + j * 4 + 2, none⟩ = some (.int .u64 (x.h : Nat)) ∧ w.cell? ⟨b, o + j * 4 + 3, none⟩ = some (.int .u64 (x.d : Nat)))
theorem Scr.keep0 {w w' : World} {a : Option Addr} {S : List Opr} (h : Scr w a S) (e : Ext [] w w') : Scr w' a S := by
  refine ⟨h.1, ?_⟩
  rcases h.2 with q | ⟨b, o, e1, hc⟩
  · exact .inl q
  · exact .inr ⟨b, o, e1, fun j x hx => by obtain ⟨c1, c2, c3⟩ := hc j x hx; exact ⟨e.cell c1 (by simp), e.cell c2 (by simp), e.cell c3 (by simp)⟩⟩
def GrPost (w : World) (e : Ending) (w' : World) : Prop := ∃ T G g c, e = .returned (.slice (some ⟨g, 0, none⟩) (3 + 17 * G) c) ∧ Sd T G ∧ Tw w' g T ∧ w.heap.size ≤ g ∧ Ext [] w w'
/-- What Insert and Delete answer. -/
def RPost (G : Nat) (w : World) (e : Ending) (w' : World) : Prop := ∃ va vn vc er, e = .returned (.tuple #[.slice va vn vc, .int .i64 er]) ∧ Ext [] w w' ∧ ((er = 0 ∧ ∃ T' g', va = some ⟨g', 0, none⟩ ∧ vn = 3 + 17 * G ∧ Sd T' G ∧ Tw w' g' T' ∧ w.heap.size ≤ g') ∨ er ≠ 0)
theorem ins_r {T : List Nat} {G h d : Nat} (hS : Sd T G) (hh : h < 18446744073709551616) (hd : d < 18446744073709551616) {w : World} {e : Ending} {w' : World} (hp : TInsPost T G h d w e w') : RPost G w e w' := by
  obtain ⟨hX, ⟨T', g, c, hI, rfl, hTw, hg⟩ | ⟨_, rfl⟩⟩ := hp
  · exact ⟨_, _, _, _, rfl, hX, .inl ⟨rfl, T', g, rfl, rfl, (ins_facts hS hh hd hI).1, hTw, hg⟩⟩
  · exact ⟨_, _, _, _, rfl, hX, .inr (by omega)⟩
theorem del_r {T : List Nat} {G h d : Nat} (hS : Sd T G) {w : World} {e : Ending} {w' : World} (hp : TDelPost T G h d w e w') : RPost G w e w' := by
  obtain ⟨hX, ⟨T', g, c, hI, rfl, hTw, hg⟩ | ⟨_, rfl⟩⟩ := hp
  · exact ⟨_, _, _, _, rfl, hX, .inl ⟨rfl, T', g, rfl, rfl, (del_facts hS hI).1, hTw, hg⟩⟩
  · exact ⟨_, _, _, _, rfl, hX, .inr (by omega)⟩
set_option maxRecDepth 100000 in
set_option maxHeartbeats 1000000 in
theorem grown_of (G0 : Int) (G : Nat) (hG : Gp G) (a : Option Addr) (n c : Nat) (S : List Opr) (w : World) (hS : Scr w a S) (hn : S.length = n) (hnb : n ≤ 17592186044416) (hTb : Tb w) (hsel : (G0 = G ∧ G ≤ 16) ∨ ((¬ GpI G0 ∨ 16 < G0) ∧ G = 2)) :
    Calls Tryd.prog 29 #[.int .i64 G0, .slice a n c] w (GrPost w) := by
  have KN := tnew_ok G hG w
  have HS := hid hS
  have HN := hid hn
  have HTb := hid hTb
  have HG := hid hG
  have hle := hG.le
  have hfin : Hid (∀ (w1 : World) (g c1 : Nat), Tw w1 g (newT G) → w.heap.size ≤ g → Ext [] w w1 → True) := fun _ _ _ _ _ _ => trivial
  clear hS hn hTb hG
  rcases hsel with ⟨rfl, h16⟩ | ⟨hbad, rfl⟩
  · have K1 := Pr.groups_any (G : Int) true (by simp; exact Pr.gpI_nat.2 HG.out) w
    have h16i : ¬ ((16 : Int) < G) := by omega
    have h16d : decide ((16 : Int) < G) = false := by simp; omega
    go_enter Tryd.func29, Tryd.ntmps29
    go_wp2_with (first | (go_at_call 31; refine met K1 ?_))
    refine KN.mono ?_
    clear KN
    rintro _ w1 ⟨g, c1, rfl, hT1, hg1, hX1⟩
    have HT1 := hid hT1
    have HX1 := hid hX1
    clear hT1 hX1
    go_wp2_with fail
    go_loopw [5, 7] (fun p q wr => ∃ (k : Nat) (T : List Nat) (g c1 : Nat), q = .int .i64 k ∧ k ≤ n ∧ p = .slice (some ⟨g, 0, none⟩) (3 + 17 * G) c1 ∧ Sd T G ∧ Tw wr g T ∧ w.heap.size ≤ g ∧ Ext [] w wr) (fun _ q _ => (n - (intOf q)).toNat)
    case atStart => exact ⟨0, newT G, g, c1, rfl, Nat.zero_le _, rfl, sd_new HG.out, HT1.out, hg1, HX1.out⟩
    case round =>
      clear HT1 HX1
      obtain ⟨k, T, g, c1, rfl, hk, rfl, hSd, hTw, hgw, hX⟩ := hrel
      have HX := hid hX
      have HSd := hid hSd
      have HTw := hid hTw
      by_cases hkn : k < n
      · have hki : (k : Int) < n := by omega
        obtain ⟨hlt, hsc⟩ := HS.out.keep0 hX
        obtain ⟨x, hx⟩ : ∃ x, S[k]? = some x := ⟨_, List.getElem?_eq_getElem (by rw [HN.out]; exact hkn)⟩
        obtain ⟨hxh, hxd0⟩ := hlt x (List.mem_of_getElem? hx)
        rcases hsc with rfl | ⟨b, o, rfl, hc⟩
        · simp at hx
        obtain ⟨c1', c2, c3⟩ := hc k x hx
        have hTbr := HTb.out.keep0 hX
        have KO := fun u (hu : Ext [] wr u) => ownT_any (some ⟨g, 0, none⟩) (3 + 17 * G) c1 T u (hTw.keep0 hu).wd hSd.shp.len (by omega) (by omega)
        have KINS := fun u g1 cc1 (ht : Tw u g1 T) (hu : Ext [] wr u) => (tinsert_any (some ⟨g1, 0, none⟩) cc1 T G x.h x.d hSd hxh hxd0 u ht.wd (hTbr.keep0 hu)).mono (fun e w' hp => ins_r hSd hxh hxd0 hp)
        have KDEL := fun u g1 cc1 (ht : Tw u g1 T) (hu : Ext [] wr u) => (tdelete_any (some ⟨g1, 0, none⟩) cc1 T G x.h x.d hSd hxh u ht.wd (hTbr.keep0 hu)).mono (fun e w' hp => del_r hSd hp)
        clear hX hSd hTw hTbr hlt hc hx
        have c1 := c1'
        clear c1'
        generalize x.k = xk at *
        generalize x.h = xh at *
        generalize x.d = xd at *
        by_cases hk1 : xk = 1
        · have hk1' : ((xk : Int) == 1) = true := by simp [hk1]
          have hs1 : (wr.drew).cell? ⟨b, o + k * 4 + 2, none⟩ = some (.int .u64 (xh : Nat)) := c2
          have hs2 : (wr.drew).cell? ⟨b, o + k * 4 + 3, none⟩ = some (.int .u64 (xd : Nat)) := c3
          have hxd := Ext.drew [] wr
          go_wp2_with fail
          go_region_held3 (fun w' => w'.cell? ⟨b, o + k * 4 + 2, none⟩ = some (.int .u64 (xh : Nat)) ∧ w'.cell? ⟨b, o + k * 4 + 3, none⟩ = some (.int .u64 (xd : Nat)))
            (first | exact ⟨(hX1.trans hX2).cell hs1 (by simp), (hX1.trans hX2).cell hs2 (by simp)⟩ | exact ⟨hX1.cell hs1 (by simp), hX1.cell hs2 (by simp)⟩ | go_keep)
            (first | (go_at_call 12; refine (KO _ hxd).mono ?_; rintro e u1 ⟨g1, cc1, rfl, hTw1, hg1, hX1⟩) | (go_at_call 17; refine (KDEL u1 g1 cc1 hTw1 (hxd.trans hX1)).mono ?_; rintro e u2 ⟨va, vn, vc, er, rfl, hX2, hres⟩) | fail "no arm")
          have hXX : Ext [] wr u2 := (hxd.trans hX1).trans hX2
          have hu1 : w.heap.size ≤ u1.heap.size := Nat.le_trans (Nat.le_trans HX.out.size hxd.size) hX1.size
          rcases hres with ⟨rfl, T', g', rfl, rfl, hS', hTw', hg'⟩ | hne
          · have HF : Hid (Sd T' G ∧ Tw u2 g' T' ∧ w.heap.size ≤ g' ∧ Ext [] w u2) := ⟨hS', hTw', by omega, HX.out.trans hXX⟩
            clear hs1 hs2 hxd hX1 hX2 hTw1 hg1 hXX hS' hTw' hg' KO KINS KDEL c1 c2 c3
            go_wp2_with fail
            go_roundw
            case rel => exact ⟨k + 1, T', g', _, by go_num, by omega, rfl, HF.out⟩
            case measure => simp [intOf]; omega
          · have hne' : ((er : Int) == 0) = false := by simpa using hne
            have HF : Hid (Sd T G ∧ Tw u2 g T ∧ w.heap.size ≤ g ∧ Ext [] w u2) := ⟨HSd.out, HTw.out.keep0 hXX, hgw, HX.out.trans hXX⟩
            clear hs1 hs2 hxd hX1 hX2 hTw1 hg1 hXX KO KINS KDEL c1 c2 c3
            go_wp2_with fail
            go_roundw
            case rel => exact ⟨k + 1, T, g, _, by go_num, by omega, rfl, HF.out⟩
            case measure => simp [intOf]; omega
        · have hk1' : ((xk : Int) == 1) = false := by simpa using hk1
          by_cases hk2 : xk = 2 ∨ xk = 3
          · have hk2' : ((xk : Int) == 2) = true ∨ (((xk : Int) == 2) = false ∧ ((xk : Int) == 3) = true) := by
              rcases hk2 with q | q
              · exact .inl (by simp [q])
              · exact .inr ⟨by simp [q], by simp [q]⟩
            have HF : Hid (Sd T G ∧ Tw wr g T ∧ w.heap.size ≤ g ∧ Ext [] w wr) := ⟨HSd.out, HTw.out, hgw, HX.out⟩
            clear KO KINS KDEL c2 c3
            rcases hk2' with q | ⟨q1, q2⟩
            · go_wp2_with fail
              go_roundw
              case rel => exact ⟨k + 1, T, g, _, by go_num, by omega, rfl, HF.out⟩
              case measure => simp [intOf]; omega
            · go_wp2_with fail
              go_roundw
              case rel => exact ⟨k + 1, T, g, _, by go_num, by omega, rfl, HF.out⟩
              case measure => simp [intOf]; omega
          · have q1 : ((xk : Int) == 2) = false := by simp; omega
            have q2 : ((xk : Int) == 3) = false := by simp; omega
            have hs1 : (wr.drew).cell? ⟨b, o + k * 4 + 2, none⟩ = some (.int .u64 (xh : Nat)) := c2
            have hs2 : (wr.drew).cell? ⟨b, o + k * 4 + 3, none⟩ = some (.int .u64 (xd : Nat)) := c3
            have hxd := Ext.drew [] wr
            go_wp2_with fail
            go_region_held3 (fun w' => w'.cell? ⟨b, o + k * 4 + 2, none⟩ = some (.int .u64 (xh : Nat)) ∧ w'.cell? ⟨b, o + k * 4 + 3, none⟩ = some (.int .u64 (xd : Nat)))
              (first | exact ⟨(hX1.trans hX2).cell hs1 (by simp), (hX1.trans hX2).cell hs2 (by simp)⟩ | exact ⟨hX1.cell hs1 (by simp), hX1.cell hs2 (by simp)⟩ | go_keep)
              (first | (go_at_call 12; refine (KO _ hxd).mono ?_; rintro e u1 ⟨g1, cc1, rfl, hTw1, hg1, hX1⟩) | (go_at_call 16; refine (KINS u1 g1 cc1 hTw1 (hxd.trans hX1)).mono ?_; rintro e u2 ⟨va, vn, vc, er, rfl, hX2, hres⟩) | fail "no arm")
            have hXX : Ext [] wr u2 := (hxd.trans hX1).trans hX2
            have hu1 : w.heap.size ≤ u1.heap.size := Nat.le_trans (Nat.le_trans HX.out.size hxd.size) hX1.size
            rcases hres with ⟨rfl, T', g', rfl, rfl, hS', hTw', hg'⟩ | hne
            · have HF : Hid (Sd T' G ∧ Tw u2 g' T' ∧ w.heap.size ≤ g' ∧ Ext [] w u2) := ⟨hS', hTw', by omega, HX.out.trans hXX⟩
              clear hs1 hs2 hxd hX1 hX2 hTw1 hg1 hXX hS' hTw' hg' KO KINS KDEL c1 c2 c3
              go_wp2_with fail
              go_roundw
              case rel => exact ⟨k + 1, T', g', _, by go_num, by omega, rfl, HF.out⟩
              case measure => simp [intOf]; omega
            · have hne' : ((er : Int) == 0) = false := by simpa using hne
              have HF : Hid (Sd T G ∧ Tw u2 g T ∧ w.heap.size ≤ g ∧ Ext [] w u2) := ⟨HSd.out, HTw.out.keep0 hXX, hgw, HX.out.trans hXX⟩
              clear hs1 hs2 hxd hX1 hX2 hTw1 hg1 hXX KO KINS KDEL c1 c2 c3
              go_wp2_with fail
              go_roundw
              case rel => exact ⟨k + 1, T, g, _, by go_num, by omega, rfl, HF.out⟩
              case measure => simp [intOf]; omega
      · obtain rfl : k = n := by omega
        have HF : Hid (GrPost w (.returned (.slice (some ⟨g, 0, none⟩) (3 + 17 * G) c1)) wr) := ⟨T, G, g, c1, rfl, hSd, hTw, hgw, hX⟩
        clear hX hSd hTw
        go_wp2
        go_ret
        exact HF.out
  · by_cases hgp : GpI G0
    · have K1 := Pr.groups_any G0 true (by simp; exact hgp) w
      have h16i : (16 : Int) < G0 := hbad.resolve_left (fun q => q hgp)
      have h16d : decide ((16 : Int) < G0) = true := by simpa using h16i
      go_enter Tryd.func29, Tryd.ntmps29
      go_wp2_with (first | (go_at_call 31; refine met K1 ?_))
      refine KN.mono ?_
      clear KN
      rintro _ w1 ⟨g, c1, rfl, hT1, hg1, hX1⟩
      have HT1 := hid hT1
      have HX1 := hid hX1
      clear hT1 hX1
      go_wp2_with fail
      go_loopw [5, 7] (fun p q wr => ∃ (k : Nat) (T : List Nat) (g c1 : Nat), q = .int .i64 k ∧ k ≤ n ∧ p = .slice (some ⟨g, 0, none⟩) (3 + 17 * 2) c1 ∧ Sd T 2 ∧ Tw wr g T ∧ w.heap.size ≤ g ∧ Ext [] w wr) (fun _ q _ => (n - (intOf q)).toNat)
      case atStart => exact ⟨0, newT 2, g, c1, rfl, Nat.zero_le _, rfl, sd_new HG.out, HT1.out, hg1, HX1.out⟩
      case round =>
        clear HT1 HX1
        obtain ⟨k, T, g, c1, rfl, hk, rfl, hSd, hTw, hgw, hX⟩ := hrel
        have HX := hid hX
        have HSd := hid hSd
        have HTw := hid hTw
        by_cases hkn : k < n
        · have hki : (k : Int) < n := by omega
          obtain ⟨hlt, hsc⟩ := HS.out.keep0 hX
          obtain ⟨x, hx⟩ : ∃ x, S[k]? = some x := ⟨_, List.getElem?_eq_getElem (by rw [HN.out]; exact hkn)⟩
          obtain ⟨hxh, hxd0⟩ := hlt x (List.mem_of_getElem? hx)
          rcases hsc with rfl | ⟨b, o, rfl, hc⟩
          · simp at hx
          obtain ⟨c1', c2, c3⟩ := hc k x hx
          have hTbr := HTb.out.keep0 hX
          have KO := fun u (hu : Ext [] wr u) => ownT_any (some ⟨g, 0, none⟩) (3 + 17 * 2) c1 T u (hTw.keep0 hu).wd hSd.shp.len (by omega) (by omega)
          have KINS := fun u g1 cc1 (ht : Tw u g1 T) (hu : Ext [] wr u) => (tinsert_any (some ⟨g1, 0, none⟩) cc1 T 2 x.h x.d hSd hxh hxd0 u ht.wd (hTbr.keep0 hu)).mono (fun e w' hp => ins_r hSd hxh hxd0 hp)
          have KDEL := fun u g1 cc1 (ht : Tw u g1 T) (hu : Ext [] wr u) => (tdelete_any (some ⟨g1, 0, none⟩) cc1 T 2 x.h x.d hSd hxh u ht.wd (hTbr.keep0 hu)).mono (fun e w' hp => del_r hSd hp)
          clear hX hSd hTw hTbr hlt hc hx
          have c1 := c1'
          clear c1'
          generalize x.k = xk at *
          generalize x.h = xh at *
          generalize x.d = xd at *
          by_cases hk1 : xk = 1
          · have hk1' : ((xk : Int) == 1) = true := by simp [hk1]
            have hs1 : (wr.drew).cell? ⟨b, o + k * 4 + 2, none⟩ = some (.int .u64 (xh : Nat)) := c2
            have hs2 : (wr.drew).cell? ⟨b, o + k * 4 + 3, none⟩ = some (.int .u64 (xd : Nat)) := c3
            have hxd := Ext.drew [] wr
            go_wp2_with fail
            go_region_held3 (fun w' => w'.cell? ⟨b, o + k * 4 + 2, none⟩ = some (.int .u64 (xh : Nat)) ∧ w'.cell? ⟨b, o + k * 4 + 3, none⟩ = some (.int .u64 (xd : Nat)))
              (first | exact ⟨(hX1.trans hX2).cell hs1 (by simp), (hX1.trans hX2).cell hs2 (by simp)⟩ | exact ⟨hX1.cell hs1 (by simp), hX1.cell hs2 (by simp)⟩ | go_keep)
              (first | (go_at_call 12; refine (KO _ hxd).mono ?_; rintro e u1 ⟨g1, cc1, rfl, hTw1, hg1, hX1⟩) | (go_at_call 17; refine (KDEL u1 g1 cc1 hTw1 (hxd.trans hX1)).mono ?_; rintro e u2 ⟨va, vn, vc, er, rfl, hX2, hres⟩) | fail "no arm")
            have hXX : Ext [] wr u2 := (hxd.trans hX1).trans hX2
            have hu1 : w.heap.size ≤ u1.heap.size := Nat.le_trans (Nat.le_trans HX.out.size hxd.size) hX1.size
            rcases hres with ⟨rfl, T', g', rfl, rfl, hS', hTw', hg'⟩ | hne
            · have HF : Hid (Sd T' 2 ∧ Tw u2 g' T' ∧ w.heap.size ≤ g' ∧ Ext [] w u2) := ⟨hS', hTw', by omega, HX.out.trans hXX⟩
              clear hs1 hs2 hxd hX1 hX2 hTw1 hg1 hXX hS' hTw' hg' KO KINS KDEL c1 c2 c3
              go_wp2_with fail
              go_roundw
              case rel => exact ⟨k + 1, T', g', _, by go_num, by omega, rfl, HF.out⟩
              case measure => simp [intOf]; omega
            · have hne' : ((er : Int) == 0) = false := by simpa using hne
              have HF : Hid (Sd T 2 ∧ Tw u2 g T ∧ w.heap.size ≤ g ∧ Ext [] w u2) := ⟨HSd.out, HTw.out.keep0 hXX, hgw, HX.out.trans hXX⟩
              clear hs1 hs2 hxd hX1 hX2 hTw1 hg1 hXX KO KINS KDEL c1 c2 c3
              go_wp2_with fail
              go_roundw
              case rel => exact ⟨k + 1, T, g, _, by go_num, by omega, rfl, HF.out⟩
              case measure => simp [intOf]; omega
          · have hk1' : ((xk : Int) == 1) = false := by simpa using hk1
            by_cases hk2 : xk = 2 ∨ xk = 3
            · have hk2' : ((xk : Int) == 2) = true ∨ (((xk : Int) == 2) = false ∧ ((xk : Int) == 3) = true) := by
                rcases hk2 with q | q
                · exact .inl (by simp [q])
                · exact .inr ⟨by simp [q], by simp [q]⟩
              have HF : Hid (Sd T 2 ∧ Tw wr g T ∧ w.heap.size ≤ g ∧ Ext [] w wr) := ⟨HSd.out, HTw.out, hgw, HX.out⟩
              clear KO KINS KDEL c2 c3
              rcases hk2' with q | ⟨q1, q2⟩
              · go_wp2_with fail
                go_roundw
                case rel => exact ⟨k + 1, T, g, _, by go_num, by omega, rfl, HF.out⟩
                case measure => simp [intOf]; omega
              · go_wp2_with fail
                go_roundw
                case rel => exact ⟨k + 1, T, g, _, by go_num, by omega, rfl, HF.out⟩
                case measure => simp [intOf]; omega
            · have q1 : ((xk : Int) == 2) = false := by simp; omega
              have q2 : ((xk : Int) == 3) = false := by simp; omega
              have hs1 : (wr.drew).cell? ⟨b, o + k * 4 + 2, none⟩ = some (.int .u64 (xh : Nat)) := c2
              have hs2 : (wr.drew).cell? ⟨b, o + k * 4 + 3, none⟩ = some (.int .u64 (xd : Nat)) := c3
              have hxd := Ext.drew [] wr
              go_wp2_with fail
              go_region_held3 (fun w' => w'.cell? ⟨b, o + k * 4 + 2, none⟩ = some (.int .u64 (xh : Nat)) ∧ w'.cell? ⟨b, o + k * 4 + 3, none⟩ = some (.int .u64 (xd : Nat)))
                (first | exact ⟨(hX1.trans hX2).cell hs1 (by simp), (hX1.trans hX2).cell hs2 (by simp)⟩ | exact ⟨hX1.cell hs1 (by simp), hX1.cell hs2 (by simp)⟩ | go_keep)
                (first | (go_at_call 12; refine (KO _ hxd).mono ?_; rintro e u1 ⟨g1, cc1, rfl, hTw1, hg1, hX1⟩) | (go_at_call 16; refine (KINS u1 g1 cc1 hTw1 (hxd.trans hX1)).mono ?_; rintro e u2 ⟨va, vn, vc, er, rfl, hX2, hres⟩) | fail "no arm")
              have hXX : Ext [] wr u2 := (hxd.trans hX1).trans hX2
              have hu1 : w.heap.size ≤ u1.heap.size := Nat.le_trans (Nat.le_trans HX.out.size hxd.size) hX1.size
              rcases hres with ⟨rfl, T', g', rfl, rfl, hS', hTw', hg'⟩ | hne
              · have HF : Hid (Sd T' 2 ∧ Tw u2 g' T' ∧ w.heap.size ≤ g' ∧ Ext [] w u2) := ⟨hS', hTw', by omega, HX.out.trans hXX⟩
                clear hs1 hs2 hxd hX1 hX2 hTw1 hg1 hXX hS' hTw' hg' KO KINS KDEL c1 c2 c3
                go_wp2_with fail
                go_roundw
                case rel => exact ⟨k + 1, T', g', _, by go_num, by omega, rfl, HF.out⟩
                case measure => simp [intOf]; omega
              · have hne' : ((er : Int) == 0) = false := by simpa using hne
                have HF : Hid (Sd T 2 ∧ Tw u2 g T ∧ w.heap.size ≤ g ∧ Ext [] w u2) := ⟨HSd.out, HTw.out.keep0 hXX, hgw, HX.out.trans hXX⟩
                clear hs1 hs2 hxd hX1 hX2 hTw1 hg1 hXX KO KINS KDEL c1 c2 c3
                go_wp2_with fail
                go_roundw
                case rel => exact ⟨k + 1, T, g, _, by go_num, by omega, rfl, HF.out⟩
                case measure => simp [intOf]; omega
        · obtain rfl : k = n := by omega
          have HF : Hid (GrPost w (.returned (.slice (some ⟨g, 0, none⟩) (3 + 17 * 2) c1)) wr) := ⟨T, 2, g, c1, rfl, hSd, hTw, hgw, hX⟩
          clear hX hSd hTw
          go_wp2
          go_ret
          exact HF.out
    · have K1 := Pr.groups_any G0 false (by simp; exact hgp) w
      go_enter Tryd.func29, Tryd.ntmps29
      go_wp2_with (first | (go_at_call 31; refine met K1 ?_))
      refine KN.mono ?_
      clear KN
      rintro _ w1 ⟨g, c1, rfl, hT1, hg1, hX1⟩
      have HT1 := hid hT1
      have HX1 := hid hX1
      clear hT1 hX1
      go_wp2_with fail
      go_loopw [5, 7] (fun p q wr => ∃ (k : Nat) (T : List Nat) (g c1 : Nat), q = .int .i64 k ∧ k ≤ n ∧ p = .slice (some ⟨g, 0, none⟩) (3 + 17 * 2) c1 ∧ Sd T 2 ∧ Tw wr g T ∧ w.heap.size ≤ g ∧ Ext [] w wr) (fun _ q _ => (n - (intOf q)).toNat)
      case atStart => exact ⟨0, newT 2, g, c1, rfl, Nat.zero_le _, rfl, sd_new HG.out, HT1.out, hg1, HX1.out⟩
      case round =>
        clear HT1 HX1
        obtain ⟨k, T, g, c1, rfl, hk, rfl, hSd, hTw, hgw, hX⟩ := hrel
        have HX := hid hX
        have HSd := hid hSd
        have HTw := hid hTw
        by_cases hkn : k < n
        · have hki : (k : Int) < n := by omega
          obtain ⟨hlt, hsc⟩ := HS.out.keep0 hX
          obtain ⟨x, hx⟩ : ∃ x, S[k]? = some x := ⟨_, List.getElem?_eq_getElem (by rw [HN.out]; exact hkn)⟩
          obtain ⟨hxh, hxd0⟩ := hlt x (List.mem_of_getElem? hx)
          rcases hsc with rfl | ⟨b, o, rfl, hc⟩
          · simp at hx
          obtain ⟨c1', c2, c3⟩ := hc k x hx
          have hTbr := HTb.out.keep0 hX
          have KO := fun u (hu : Ext [] wr u) => ownT_any (some ⟨g, 0, none⟩) (3 + 17 * 2) c1 T u (hTw.keep0 hu).wd hSd.shp.len (by omega) (by omega)
          have KINS := fun u g1 cc1 (ht : Tw u g1 T) (hu : Ext [] wr u) => (tinsert_any (some ⟨g1, 0, none⟩) cc1 T 2 x.h x.d hSd hxh hxd0 u ht.wd (hTbr.keep0 hu)).mono (fun e w' hp => ins_r hSd hxh hxd0 hp)
          have KDEL := fun u g1 cc1 (ht : Tw u g1 T) (hu : Ext [] wr u) => (tdelete_any (some ⟨g1, 0, none⟩) cc1 T 2 x.h x.d hSd hxh u ht.wd (hTbr.keep0 hu)).mono (fun e w' hp => del_r hSd hp)
          clear hX hSd hTw hTbr hlt hc hx
          have c1 := c1'
          clear c1'
          generalize x.k = xk at *
          generalize x.h = xh at *
          generalize x.d = xd at *
          by_cases hk1 : xk = 1
          · have hk1' : ((xk : Int) == 1) = true := by simp [hk1]
            have hs1 : (wr.drew).cell? ⟨b, o + k * 4 + 2, none⟩ = some (.int .u64 (xh : Nat)) := c2
            have hs2 : (wr.drew).cell? ⟨b, o + k * 4 + 3, none⟩ = some (.int .u64 (xd : Nat)) := c3
            have hxd := Ext.drew [] wr
            go_wp2_with fail
            go_region_held3 (fun w' => w'.cell? ⟨b, o + k * 4 + 2, none⟩ = some (.int .u64 (xh : Nat)) ∧ w'.cell? ⟨b, o + k * 4 + 3, none⟩ = some (.int .u64 (xd : Nat)))
              (first | exact ⟨(hX1.trans hX2).cell hs1 (by simp), (hX1.trans hX2).cell hs2 (by simp)⟩ | exact ⟨hX1.cell hs1 (by simp), hX1.cell hs2 (by simp)⟩ | go_keep)
              (first | (go_at_call 12; refine (KO _ hxd).mono ?_; rintro e u1 ⟨g1, cc1, rfl, hTw1, hg1, hX1⟩) | (go_at_call 17; refine (KDEL u1 g1 cc1 hTw1 (hxd.trans hX1)).mono ?_; rintro e u2 ⟨va, vn, vc, er, rfl, hX2, hres⟩) | fail "no arm")
            have hXX : Ext [] wr u2 := (hxd.trans hX1).trans hX2
            have hu1 : w.heap.size ≤ u1.heap.size := Nat.le_trans (Nat.le_trans HX.out.size hxd.size) hX1.size
            rcases hres with ⟨rfl, T', g', rfl, rfl, hS', hTw', hg'⟩ | hne
            · have HF : Hid (Sd T' 2 ∧ Tw u2 g' T' ∧ w.heap.size ≤ g' ∧ Ext [] w u2) := ⟨hS', hTw', by omega, HX.out.trans hXX⟩
              clear hs1 hs2 hxd hX1 hX2 hTw1 hg1 hXX hS' hTw' hg' KO KINS KDEL c1 c2 c3
              go_wp2_with fail
              go_roundw
              case rel => exact ⟨k + 1, T', g', _, by go_num, by omega, rfl, HF.out⟩
              case measure => simp [intOf]; omega
            · have hne' : ((er : Int) == 0) = false := by simpa using hne
              have HF : Hid (Sd T 2 ∧ Tw u2 g T ∧ w.heap.size ≤ g ∧ Ext [] w u2) := ⟨HSd.out, HTw.out.keep0 hXX, hgw, HX.out.trans hXX⟩
              clear hs1 hs2 hxd hX1 hX2 hTw1 hg1 hXX KO KINS KDEL c1 c2 c3
              go_wp2_with fail
              go_roundw
              case rel => exact ⟨k + 1, T, g, _, by go_num, by omega, rfl, HF.out⟩
              case measure => simp [intOf]; omega
          · have hk1' : ((xk : Int) == 1) = false := by simpa using hk1
            by_cases hk2 : xk = 2 ∨ xk = 3
            · have hk2' : ((xk : Int) == 2) = true ∨ (((xk : Int) == 2) = false ∧ ((xk : Int) == 3) = true) := by
                rcases hk2 with q | q
                · exact .inl (by simp [q])
                · exact .inr ⟨by simp [q], by simp [q]⟩
              have HF : Hid (Sd T 2 ∧ Tw wr g T ∧ w.heap.size ≤ g ∧ Ext [] w wr) := ⟨HSd.out, HTw.out, hgw, HX.out⟩
              clear KO KINS KDEL c2 c3
              rcases hk2' with q | ⟨q1, q2⟩
              · go_wp2_with fail
                go_roundw
                case rel => exact ⟨k + 1, T, g, _, by go_num, by omega, rfl, HF.out⟩
                case measure => simp [intOf]; omega
              · go_wp2_with fail
                go_roundw
                case rel => exact ⟨k + 1, T, g, _, by go_num, by omega, rfl, HF.out⟩
                case measure => simp [intOf]; omega
            · have q1 : ((xk : Int) == 2) = false := by simp; omega
              have q2 : ((xk : Int) == 3) = false := by simp; omega
              have hs1 : (wr.drew).cell? ⟨b, o + k * 4 + 2, none⟩ = some (.int .u64 (xh : Nat)) := c2
              have hs2 : (wr.drew).cell? ⟨b, o + k * 4 + 3, none⟩ = some (.int .u64 (xd : Nat)) := c3
              have hxd := Ext.drew [] wr
              go_wp2_with fail
              go_region_held3 (fun w' => w'.cell? ⟨b, o + k * 4 + 2, none⟩ = some (.int .u64 (xh : Nat)) ∧ w'.cell? ⟨b, o + k * 4 + 3, none⟩ = some (.int .u64 (xd : Nat)))
                (first | exact ⟨(hX1.trans hX2).cell hs1 (by simp), (hX1.trans hX2).cell hs2 (by simp)⟩ | exact ⟨hX1.cell hs1 (by simp), hX1.cell hs2 (by simp)⟩ | go_keep)
                (first | (go_at_call 12; refine (KO _ hxd).mono ?_; rintro e u1 ⟨g1, cc1, rfl, hTw1, hg1, hX1⟩) | (go_at_call 16; refine (KINS u1 g1 cc1 hTw1 (hxd.trans hX1)).mono ?_; rintro e u2 ⟨va, vn, vc, er, rfl, hX2, hres⟩) | fail "no arm")
              have hXX : Ext [] wr u2 := (hxd.trans hX1).trans hX2
              have hu1 : w.heap.size ≤ u1.heap.size := Nat.le_trans (Nat.le_trans HX.out.size hxd.size) hX1.size
              rcases hres with ⟨rfl, T', g', rfl, rfl, hS', hTw', hg'⟩ | hne
              · have HF : Hid (Sd T' 2 ∧ Tw u2 g' T' ∧ w.heap.size ≤ g' ∧ Ext [] w u2) := ⟨hS', hTw', by omega, HX.out.trans hXX⟩
                clear hs1 hs2 hxd hX1 hX2 hTw1 hg1 hXX hS' hTw' hg' KO KINS KDEL c1 c2 c3
                go_wp2_with fail
                go_roundw
                case rel => exact ⟨k + 1, T', g', _, by go_num, by omega, rfl, HF.out⟩
                case measure => simp [intOf]; omega
              · have hne' : ((er : Int) == 0) = false := by simpa using hne
                have HF : Hid (Sd T 2 ∧ Tw u2 g T ∧ w.heap.size ≤ g ∧ Ext [] w u2) := ⟨HSd.out, HTw.out.keep0 hXX, hgw, HX.out.trans hXX⟩
                clear hs1 hs2 hxd hX1 hX2 hTw1 hg1 hXX KO KINS KDEL c1 c2 c3
                go_wp2_with fail
                go_roundw
                case rel => exact ⟨k + 1, T, g, _, by go_num, by omega, rfl, HF.out⟩
                case measure => simp [intOf]; omega
        · obtain rfl : k = n := by omega
          have HF : Hid (GrPost w (.returned (.slice (some ⟨g, 0, none⟩) (3 + 17 * 2) c1)) wr) := ⟨T, 2, g, c1, rfl, hSd, hTw, hgw, hX⟩
          clear hX hSd hTw
          go_wp2
          go_ret
          exact HF.out
end Go.Proofs.YtkknadkcpndnaaaDoor
