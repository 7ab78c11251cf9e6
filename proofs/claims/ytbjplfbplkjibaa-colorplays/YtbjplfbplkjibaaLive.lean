/-
  The program's Live and the statements' own 'live'; no statement is proved here.
-/
import Derived.Test.YtbjplfbplkjibaaIter
import Derived.Test.YtbjplfbplkjibaaSweep
namespace Go.Proofs.Ytbjplfbplkjibaa
open Go.RowKit Go.Shelf

attribute [local go_sem] Oper.semAt_some

theorem eql_func_nil (w : World) (Bn : Nat) : (binOp .eql 61 (.func (.func 42) #[] #[.pointer (some ⟨Bn, 0, none⟩)]) .nilFunc).run Try.prog w = .ok (.bool false) w := by
  have h : ∀ d, (Op.equalIn (d + 1) 61 (.func (.func 42) #[] #[.pointer (some ⟨Bn, 0, none⟩)]) .nilFunc).run Try.prog w = .ok false w := fun d => by simp [Op.equalIn, run_underlying Try.underlying61]
  simp only [binOp]
  simp [Op.equal, Op.maxDepth, h 9999]

theorem results_cells2 {P : Program} {fn : Func} {p q : Tmp} {ty ty' : TypeId} (h : fn.results = #[.cell p ty, .cell q ty']) (tmps : Array Value) (w : World) (a b : Addr) (v v' : Value)
    (hp : tmps.getD p undef = .pointer (some a)) (hq : tmps.getD q undef = .pointer (some b)) (h1 : (loadVar ty a).run P w = .ok v w) (h2 : (loadVar ty' b).run P w = .ok v' w) : (results fn tmps).run P w = .ok (.tuple #[v, v']) w := by
  have hp' : tmps[p]?.getD undef = .pointer (some a) := by simpa using hp
  have hq' : tmps[q]?.getD undef = .pointer (some b) := by simpa using hq
  simp [results, h, hp', hq', asAddr, h1, h2]

/-- What 'live' answers. -/
def ToldPost (w : World) (L : List Int) (e : Ending) (w' : World) : Prop :=
  ∃ v, e = .returned (.tuple #[v, .bool true]) ∧ Lst w' v L ∧ (∀ g, v.ownBlock = some g → w.heap.size ≤ g) ∧ Ext [] w w'

theorem load23 {w : World} {g : Nat} {v : Value} (h : Boxed w g 28 v) : (loadVar 28 ⟨g, 0, none⟩).run Try.prog w = .ok v w := by
  have := h.cell
  simp [go_sem, this]
theorem load4 {w : World} {g : Nat} {v : Value} (h : Boxed w g 4 v) : (loadVar 4 ⟨g, 0, none⟩).run Try.prog w = .ok v w := by
  have := h.cell
  simp [go_sem, this]

/-- What Live answers: an iterator over a list. -/
def LvPost (w : World) (L : List Int) (e : Ending) (w' : World) : Prop :=
  ∃ Bn v, e = .returned (itv Bn) ∧ Boxed w' Bn 28 v ∧ Lst w' v L ∧ w.heap.size ≤ Bn ∧ (∀ g, v.ownBlock = some g → w.heap.size ≤ g) ∧ Ext [] w w'

theorem liveI_nil (w : World) : Calls Try.prog 27 #[.pointer none] w (LvPost w []) := by
  go_enter Try.func27, Try.ntmps27
  go_wp2_with (go_at_call 39; refine (values_any _ _ _ _ rfl _).mono ?_; rintro e w' ⟨rfl, rfl⟩)
  go_ret
  exact ⟨_, _, rfl, Boxed.new _ _ _, lst_nil _, Nat.le_refl _, by simp [Value.ownBlock], Ext.alloc _ _ _⟩

/-- The live nodes below k. -/
def livK (G : Gs) (k : Nat) : List Nat := (List.range k).filter fun i => decide (lvN G i)
theorem livK_succ (G : Gs) (k : Nat) : livK G (k + 1) = livK G k ++ if lvN G k then [k] else [] := by
  simp only [livK, List.range_succ, List.filter_append]
  by_cases h : lvN G k <;> simp [h]
theorem livK_len (G : Gs) (k : Nat) : (livK G k).length ≤ k := by
  have := List.length_filter_le (fun i => decide (lvN G i)) (List.range k)
  simpa [livK] using this
def li (l : List Nat) : List Int := l.map fun (x : Nat) => (x : Int)
theorem li_len (l : List Nat) : (li l).length = l.length := by simp [li]

set_option maxHeartbeats 2000000 in
theorem liveI_any (p : Nat) (G : Gs) (B : Nat → Prop) (w : World) (h : Gr w p G B) (hlen : G.ns.length ≤ 65536) : Calls Try.prog 27 #[.pointer (some ⟨p, 0, none⟩)] w (LvPost w (li (lives G))) := by
  have HH := hid h
  have f0 : ∃ a c, w.cell? ⟨p, 0, none⟩ = some (.slice a G.ns.length c) := by
    obtain ⟨vn, vl, SV, h, _⟩ := h
    obtain ⟨a, c, rfl, _⟩ := own_slice h.row
    exact ⟨a, c, h.flds.1⟩
  obtain ⟨a, c, f0⟩ := f0
  have HL : Hid (livK G G.ns.length = lives G) := rfl
  have HK : Hid (∀ W i, Ext [] w W → i < G.ns.length → Calls Try.prog 32 #[.pointer (some ⟨p, 0, none⟩), .int .i64 (i : Nat)] W fun e w' => e = .returned (.bool (decide (lvN G i))) ∧ w' = W) := fun W i hE hi => live_nat p G B i W (h.keep0 hE) hlen hi
  have HS := hid (livK_succ G)
  have HLl := hid (livK_len G)
  generalize G.ns.length = n at *
  clear h
  go_enter Try.func27, Try.ntmps27
  go_wp2_with fail
  go_loopw [13, 3] (fun q b wr => ∃ (k : Nat), q = .int .i64 k ∧ k ≤ n ∧ (∃ ad m d, b = .slice ad m d) ∧ wr.ownsRow w.heap.size 3 1 b (livK G k).length ((li (livK G k)).map (Value.int .i64)) ∧ Ext [] w wr) (fun q _ _ => (n - (intOf q)).toNat)
  case atStart => exact ⟨0, rfl, Nat.zero_le _, ⟨_, _, _, rfl⟩, own_nil _ _ _ _, Ext.refl _ _⟩
  case round =>
    obtain ⟨k, rfl, hk, ⟨ad, m, d, rfl⟩, ho, hE⟩ := hrel
    have HO := hid ho
    have HE := hid hE
    clear ho hE
    by_cases hlt : k < n
    · have K := HK.out wr k HE.out hlt
      have HSk := hid (HS.out k)
      have hkl := HLl.out k
      by_cases hlv : lvN G k
      · rw [decide_eq_true hlv] at K
        have hS2 := HSk.out
        rw [if_pos hlv] at hS2
        obtain ⟨i3, hi3, hz3, hs3, hy3⟩ := info_parts info3
        have hEa := Ext.alloc [] wr (.cells #[.int .i64 (k : Int)] 3)
        have hsz := HE.out.size
        obtain ⟨v', w2, hr, ho2, hg2, _⟩ := run_append_own (P := Try.prog) (wr.alloc (.cells #[.int .i64 (k : Int)] 3)) w.heap.size 28 28 3 i3 _ 1 8 Try.underlying28 hi3 hz3 hs3 hy3 rfl (by decide) (.slice ad m d) _ _ (own_keep0 HO.out hEa) ⟨wr.heap.size, 0, none⟩ 1 1 [.int .i64 (k : Int)] rfl (fun j u hu => by rw [Addr.add_lit, cell_of_row _ _ _ _ _ _ (heap_alloc_new wr _), Nat.zero_add, ← hu]; simp) (by simp [Value.oneCell']) (by unfold maxLen; omega) (by omega) (by simp; omega)
        have hO2 : w2.ownsRow w.heap.size 3 1 v' (livK G (k + 1)).length ((li (livK G (k + 1))).map (Value.int .i64)) := by rw [hS2]; simpa [li] using ho2
        have HO2 := hid hO2
        have HE2 : Hid (Ext [] w w2) := (HE.out.trans hEa).on (ext_grown hg2) (fun x hx => (own_lt HO.out x (by simpa using hx)).1)
        obtain ⟨a2, c2, rfl, _⟩ := own_slice ho2
        clear ho2 hO2 hg2 hi3 hz3 hs3 hy3 hEa hS2 hlv HO HE
        go_wp2_with (first | (go_at_call 32; refine met K ?_) | (at_builtin; refine wpList_append_run rfl _ _ 28 rfl _ _ _ rfl rfl hr ?_))
        go_roundw
        case rel => exact ⟨k + 1, by go_num, by omega, ⟨_, _, _, rfl⟩, HO2.out, HE2.out⟩
        case measure => simp [intOf]; omega
      · rw [decide_eq_false hlv] at K
        have hS2 := HSk.out
        rw [if_neg hlv, List.append_nil] at hS2
        have HO2 := HO
        rw [← hS2] at HO2
        clear HO hS2 hlv
        go_wp2_with (go_at_call 32; refine met K ?_)
        go_roundw
        case rel => exact ⟨k + 1, by go_num, by omega, ⟨_, _, _, rfl⟩, HO2.out, HE.out⟩
        case measure => simp [intOf]; omega
    · obtain rfl : k = n := by omega
      go_wp2_with (go_at_call 39; refine (values_any _ _ _ _ rfl _).mono ?_; rintro e w' ⟨rfl, rfl⟩)
      go_ret
      refine ⟨_, _, rfl, Boxed.new _ _ _, ?_, HE.out.size, fun g hg => (own_lt HO.out g hg).1, HE.out.trans (Ext.alloc _ _ _)⟩
      have := own_keep0 (own_base HO.out (Nat.zero_le _)) (Ext.alloc [] wr (.cells #[.slice ad m d] 28))
      rw [HL.out] at this
      rw [Lst, li_len]
      exact this

set_option maxRecDepth 100000 in
set_option maxHeartbeats 4000000 in
theorem told_of (g0 : Option Addr) (L : List Int) (w : World) (hA : ∀ W, Ext [] w W → Calls Try.prog 27 #[.pointer g0] W (LvPost W L)) (hl6 : L.length ≤ 65536) :
    Calls Try.prog 9 #[.pointer g0] w (ToldPost w L) := by
  refine (callsIn_wide (n := 8)).1 ?_
  refine callsIn_of_wp_marks Try.func9 rfl trivial ?_ rfl
  simp only [Try.ntmps9, List.size_toArray, List.length_cons, List.length_nil, Nat.reduceAdd, Nat.reduceSub, Array.replicate_succ, Array.replicate_zero, List.push_toArray, List.append_toArray, List.nil_append, List.cons_append]
  have hE2 : Ext [] w ((w.alloc (.cells #[.slice none 0 0] 28)).alloc (.cells #[.bool false] 4)) := (Ext.alloc [] _ _).trans (Ext.alloc [] _ _)
  have bL := (Boxed.new w 28 (.slice none 0 0)).alloc (.cells #[.bool false] 4)
  have bO := Boxed.new (w.alloc (.cells #[.slice none 0 0] 28)) 4 (.bool false)
  simp only [World.size_alloc] at bO bL
  have K3 := hA _ hE2
  have HE3 := hid hE2
  have HB5 := hid bL
  have HB6 := hid bO
  clear hA hE2 bL bO
  gi_wp2_with fail
  refine ⟨trivial, ?_⟩
  refine (callsIn_wide.2 K3).mono ?_
  clear K3
  rintro e w3 ⟨Bn, v0, rfl, bN, hL0, hBn, hg0, hE4⟩
  have HE4 := hid (HE3.out.trans hE4)
  have HB8 := hid (show Boxed w3 w.heap.size 28 (.slice none 0 0) from hE4.keep HB5.out (by simp))
  have HB9 := hid (show Boxed w3 (w.heap.size + 1) 4 (.bool false) from hE4.keep HB6.out (by simp))
  have HbN := hid bN
  have HL0 := hid hL0
  have hBlt := bN.lt
  have hglt := hL0.lt
  have hz1 : w.heap.size + 1 < w3.heap.size := HB9.out.lt
  clear HB5 HB6 HE3 bN hL0 hBn hg0 hE4
  unfold itv
  have hfn := fun W => eql_func_nil W Bn
  gi_wp2_with fail
  clear hfn
  have hEa := Ext.alloc [] w3 (.cells #[.slice none 0 0] 28)
  have bR := hid (HB8.out.alloc (.cells #[.slice none 0 0] 28))
  have bO := hid (HB9.out.alloc (.cells #[.slice none 0 0] 28))
  have bN := hid (HbN.out.alloc (.cells #[.slice none 0 0] 28))
  have bC := hid (Boxed.new w3 28 (.slice none 0 0))
  have hL := hid (HL0.out.keep0 hEa)
  have hB0 := hid (hEa.below)
  have hsz : (w3.alloc (.cells #[.slice none 0 0] 28)).heap.size = w3.heap.size + 1 := by simp
  obtain ⟨W0, hW0⟩ : ∃ W0, w3.alloc (.cells #[.slice none 0 0] 28) = W0 := ⟨_, rfl⟩
  rw [hW0] at bR bO bN bC hL hB0 hsz ⊢
  obtain ⟨i0, hi, hz0, hz1', hz2⟩ := info_parts info3
  have HI0 := hid hi
  have HZ0 := hid hz0
  clear hW0 hEa hi hz0
  refine wpIn_rangeFunc_ownH rfl (by omega) (gf := 42) (lb := #[.pointer (some ⟨Bn, 0, none⟩)]) rfl trivial (enters_of Try.func42 (by kernel_rfl) rfl)
    (each_stops Fence.wide _ trivial rfl (by omega) Bn v0 L (by omega) W0 bN.out hL.out) klK_t (klK_b (by omega) (fun g hg => by have := hglt g hg; omega)) (Below.refl _ _) (fun _ => rfl)
    (fun pre W => ((∃ v, Boxed W w3.heap.size 28 v ∧ W.ownsRow w3.heap.size 3 1 v pre.length (pre.map (Value.int .i64)) ∧ True) ∧ (Boxed W w.heap.size 28 (.slice none 0 0) ∧ Boxed W (w.heap.size + 1) 4 (.bool false))) ∧ Below w3.heap.size w3 W)
    (fun _ _ _ => False)
    (OwnFrom.and (OwnFrom.and (Own.from (holdsRow_own w3.heap.size w3.heap.size 28 3 1 (fun pre : List Int => pre.length) (fun pre : List Int => pre.map (Value.int .i64)) (fun _ _ => True)) _) (OwnFrom.and (Own.from (boxed_own _ _ _) _) (Own.from (boxed_own _ _ _) _))) (ownFrom_below (Nat.le_refl _) (by omega)))
    (fun _ _ _ _ _ hs _ _ => hs)
    ⟨⟨⟨_, bC.out, own_nil _ _ _ _, trivial⟩, bR.out, bO.out⟩, hB0.out⟩
    (fun x a' _ => a' = { tmps := #[.pointer g0, undef, .pointer (some ⟨w.heap.size, 0, none⟩), .pointer (some ⟨w.heap.size + 1, 0, none⟩), .func (.func 42) #[] #[.pointer (some ⟨Bn, 0, none⟩)], .pointer (some ⟨w3.heap.size, 0, none⟩), .int .i64 x, .pointer g0, .func (.func 42) #[] #[.pointer (some ⟨Bn, 0, none⟩)], .func (.func 42) #[] #[.pointer (some ⟨Bn, 0, none⟩)], .bool false, .func (.func 42) #[] #[.pointer (some ⟨Bn, 0, none⟩)], .int .i64 x, undef, undef, undef, undef, undef, undef, undef, undef], defers := [] })
    (fun x a' _ X Y row hs hg hr => hs)
    ?assign ?body ?done ?stop
  case assign =>
    rintro l pre x W K ⟨⟨⟨v, bC1, hrow, _⟩, bR1⟩, hB1⟩ hK
    gi_wp2
    exact hK _ _ (KeepsFrom.refl _ _) (Kl.refl _ _ _) ⟨⟨⟨v, bC1, hrow, trivial⟩, bR1⟩, hB1⟩ rfl
  case body =>
    rintro l pre x a' W hl ⟨r, hr⟩ ⟨⟨⟨v, bC1, hrow, _⟩, bR1, bO1⟩, hB1⟩ rfl hlt
    have hc := bC1.cell
    have hpl6 : pre.length ≤ 65535 := by omega
    have hpl7 : ¬ (65536 : Int) < (pre.length : Int) + 1 := by omega
    have hpl8 : ¬ (65536 : Int) < ((pre.length + 1 : Nat) : Int) := by omega
    have hxr : ∀ (j : Nat) (u : Value), [Value.int .i64 x][j]? = some u → (W.alloc (.cells #[.int .i64 x] 3)).cell? ((⟨W.heap.size, 0, none⟩ : Addr).add j) = some u := fun j u hu => by
      rw [Addr.add_lit, cell_of_row _ _ _ _ _ _ (heap_alloc_new W _), Nat.zero_add, ← hu]; simp
    have HX := hid hxr
    have HC1 := hid bC1
    have Hrow := hid hrow
    have HB1 := hid hB1
    have HR1 := hid bR1
    have HO1 := hid bO1
    have hWs : w3.heap.size ≤ W.heap.size := hB1.size
    have hwl : w.heap.size < w3.heap.size := by omega
    clear bC1 hrow hB1 bR1 bO1 hxr hr
    gi_wp2_with (gi_at_builtin; refine wpListIn_append_own _ rfl _ _ 28 rfl w3.heap.size 3 i0 _ 1 8 Try.underlying28 HI0.out HZ0.out hz1' hz2 rfl (by decide) _ _ _ rfl (Hrow.out.alloc _) ⟨W.heap.size, 0, none⟩ 1 1 [.int .i64 x] rfl rfl HX.out (by simp [Value.oneCell']) (by unfold maxLen; omega) (by omega) (by simp; omega) ?_; intro v' w2 hown' hgrow _; obtain ⟨g', cap', rfl⟩ := ownsRow_succ hown'; obtain ⟨hv1, hv2, hr2, hk2, hb2⟩ := HC1.out.appended (by decide) Hrow.out HB1.out.size (Nat.le_refl _) hown' hgrow; have hc1 := hv1.cell; have hf1 := hv1.frozen; have hc2 := hv2.cell)
    refine ⟨hk2.from _, Kl.of_below hb2 hBlt hglt, ⟨⟨_, hv2, ?_⟩, (hb2.block _ hwl).trans HR1.out, (hb2.block _ hz1).trans HO1.out⟩, HB1.out.trans hb2⟩
    rw [List.map_append, List.length_append]
    exact hr2
  case done =>
    rintro D zs W hD rfl ⟨⟨⟨v, bC1, hrow, _⟩, bR1, bO1⟩, hB1⟩ hK
    obtain ⟨av, cv, rfl, _⟩ := own_slice hrow
    have hc := bC1.cell
    have cR := bR1.cell
    have fR := bR1.frozen
    have cO := bO1.cell
    have fO := bO1.frozen
    have HB1 := hid hB1
    have HK := hid hK
    have HR1 := hid bR1
    have HO1 := hid bO1
    have Hrow := hid hrow
    have HD := hid hD
    clear hB1 hK bR1 bO1 hrow bC1 hD
    gi_wp2
    have hK2 := ((KeepsOthers.setCell W ⟨w.heap.size, 0, none⟩ (.slice av zs.length cv)).trans (KeepsOthers.setCell _ ⟨w.heap.size + 1, 0, none⟩ (.bool true))).same _ _ HK.out rfl
    refine ⟨by simp, .inl ⟨_, _, rfl, run_takeDeferred hK2, ?_⟩⟩
    have hP := grownBy_putObj' ((W.setCell ⟨w.heap.size, 0, none⟩ (.slice av zs.length cv)).setCell ⟨w.heap.size + 1, 0, none⟩ (.bool true)) D (.deferred none)
    have hx1 := Ext.setCell [w.heap.size] W ⟨w.heap.size, 0, none⟩ (.slice av zs.length cv) (by simp)
    have hx2 := Ext.setCell [w.heap.size + 1] (W.setCell ⟨w.heap.size, 0, none⟩ (.slice av zs.length cv)) ⟨w.heap.size + 1, 0, none⟩ (.bool true) (by simp)
    have hx3 := Ext.grown (S := [D]) hP (by simp)
    have hD2 := HD.out
    have hr1 : Boxed _ _ _ _ := hx3.keep (hx2.keep (HR1.out.set (.slice av zs.length cv)) (by simp)) (by simp; omega)
    have hr2 : Boxed _ _ _ _ := hx3.keep ((show Boxed _ _ _ _ from hx1.keep HO1.out (by simp)).set (.bool true)) (by simp; omega)
    have hE : Ext [] w W := HE4.out.trans (below_ext HB1.out)
    have hol := own_lt Hrow.out
    refine ⟨_, results_cells2 rfl _ _ ⟨w.heap.size, 0, none⟩ ⟨w.heap.size + 1, 0, none⟩ _ _ rfl rfl (load23 hr1) (load4 hr2), _, rfl, ?_, ?_, ?_⟩
    · have h1 := own_keep Hrow.out hx1 (by simp; intro h; have := hol _ h; omega)
      have h2 := own_keep h1 hx2 (by simp; intro h; have := hol _ h; omega)
      have h3 := own_keep h2 hx3 (by
        intro b hb
        simp at hb
        subst hb
        intro h
        rcases h2.2 with ⟨h0, _⟩ | ⟨g, cap, cur, h0, _, hg, _⟩
        · rw [h0] at h; simp [Value.ownBlock] at h
        · rw [h0] at h
          simp [Value.ownBlock] at h
          subst h
          rw [hK2] at hg
          simp at hg)
      exact own_base h3 (Nat.zero_le _)
    · intro g hg
      have := (hol g hg).1
      omega
    · exact ((hE.on hx1 (by simp)).on hx2 (by simp)).on hx3 (by simp; omega)
  case stop =>
    rintro D c pre W _ _ h _
    exact h.elim

theorem told_any (p : Nat) (G : Gs) (B : Nat → Prop) (w : World) (h : Gr w p G B) (hlen : G.ns.length ≤ 65536) : Calls Try.prog 9 #[.pointer (some ⟨p, 0, none⟩)] w (ToldPost w (li (lives G))) :=
  told_of _ _ w (fun W hE => liveI_any p G B W (h.keep0 hE) hlen) (by rw [li_len]; have := livK_len G G.ns.length; exact Nat.le_trans this hlen)
theorem told_nil (w : World) : Calls Try.prog 9 #[.pointer none] w (ToldPost w []) := told_of _ _ w (fun W _ => liveI_nil W) (by simp)

end Go.Proofs.Ytbjplfbplkjibaa
