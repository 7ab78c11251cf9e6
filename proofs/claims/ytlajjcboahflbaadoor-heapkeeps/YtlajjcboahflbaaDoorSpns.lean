/-
  Spans: all spans of a heap, in a list of their own; no statement is proved here.
-/
import Derived.Test.YtlajjcboahflbaaDoorObjs
namespace Go.Proofs.YtlajjcboahflbaaDoor
open Go.RowKit Go.Shelf

attribute [local go_sem] Oper.semAt_some

theorem info36 : (Tryd.prog.info? 36).map (fun i => (i.zero, i.size, i.bytes)) = some (some (.agg #[.int .i64 0, .int .i64 0, .int .i64 0, .int .i64 0, .int .i64 0]), 5, 40) := by kernel_rfl

def spc (x : Spn) : List Value := [.int .i64 x.st, .int .i64 x.n, .int .i64 x.rm, .int .i64 x.S.length, .int .i64 (us x.S)]
def spcs (L : List Spn) : List Value := L.flatMap spc
theorem spcs_append (A B : List Spn) : spcs (A ++ B) = spcs A ++ spcs B := by simp [spcs]
theorem spcs_len (L : List Spn) : (spcs L).length = L.length * 5 := by
  induction L with
  | nil => rfl
  | cons o L ih => simp [spcs, spc] at ih ⊢; omega
def Spl (w : World) (v : Value) (L : List Spn) : Prop := w.ownsRow 0 36 5 v L.length (spcs L)

def svit (Bn : Nat) : Value := .func (.func 80) #[] #[.pointer (some ⟨Bn, 0, none⟩)]
theorem values29 (v : Value) (hv : ∃ a n c, v = .slice a n c) (w : World) : Calls Tryd.prog 63 #[v] w fun e w' => e = .returned (svit w.heap.size) ∧ w' = w.alloc (.cells #[v] 29) := by
  obtain ⟨a, n, c, rfl⟩ := hv
  go_enter Tryd.func63, Tryd.ntmps63
  go_wp2
  go_ret
  exact ⟨rfl, rfl⟩

def SlPost (w : World) (L : List Spn) (e : Ending) (w' : World) : Prop := ∃ Bn v, e = .returned (svit Bn) ∧ Boxed w' Bn 29 v ∧ Spl w' v L ∧ w.heap.size ≤ Bn ∧ (∀ g, v.ownBlock = some g → w.heap.size ≤ g) ∧ Ext [] w w'

set_option maxRecDepth 100000 in
set_option maxHeartbeats 8000000 in
theorem spansl_of (pv : Option Addr) (H : Hs) (sb : Nat → Nat × Nat) (K : Nat → List Nat) (w : World) (hv : Hv H) (hS : ∀ x ∈ H.sp, Sp w (sb x.st).1 (sb x.st).2 x.st x.n x.rm (us x.S) x.S) (hI : SpIt w pv H sb K) : Calls Tryd.prog 30 #[.pointer pv] w (SlPost w H.sp) := by
  refine (callsIn_wide (n := 8)).1 ?_
  refine callsIn_of_wp_marks Tryd.func30 rfl trivial ?_ rfl
  simp only [Tryd.ntmps30, List.size_toArray, List.length_cons, List.length_nil, Nat.reduceAdd, Nat.reduceSub, Array.replicate_succ, Array.replicate_zero, List.push_toArray, List.append_toArray, List.nil_append, List.cons_append]
  have K1 := fun u => spans_any pv u
  obtain ⟨i0, hi0, hzz0, hz1, hz2⟩ := info_parts info36
  have HI0 := hid hi0
  have HZ0 := hid hzz0
  clear hi0 hzz0
  have HS := hid hS
  have HV := hid hv
  have HI := hid hI
  clear hS hv hI
  gi_wp2_with (refine ⟨trivial, ?_⟩; gi_at_call 52; refine (callsIn_wide.2 (K1 _)).mono ?_; rintro e w' ⟨rfl, rfl⟩)
  clear K1
  obtain ⟨z, hz⟩ : ∃ z, z = w.heap.size := ⟨_, rfl⟩
  have hE0 : Ext [] w ((w.alloc (.cells #[.slice none 0 0] 29)).alloc (.cells #[.pointer pv] 23)) := (Ext.alloc [] _ _).trans (Ext.alloc [] _ _)
  have bL := (Boxed.new w 29 (.slice none 0 0)).alloc (.cells #[.pointer pv] 23)
  have bN := Boxed.new (w.alloc (.cells #[.slice none 0 0] 29)) 23 (.pointer pv)
  simp only [World.size_alloc] at bN
  have hsz : ((w.alloc (.cells #[.slice none 0 0] 29)).alloc (.cells #[.pointer pv] 23)).heap.size = w.heap.size + 2 := by simp
  obtain ⟨W0, hW0⟩ : ∃ W0, (w.alloc (.cells #[.slice none 0 0] 29)).alloc (.cells #[.pointer pv] 23) = W0 := ⟨_, rfl⟩
  rw [hW0] at bL bN hE0 hsz ⊢
  clear hW0
  have hSt := HI.out.1 W0 (w.heap.size + 1) hE0 (by omega) bN
  have hKb : ∀ b ∈ K (w.heap.size + 1), b < W0.heap.size := fun b hb => by rcases HI.out.2 _ b hb with q | q <;> omega
  have HKb := hid (HI.out.2 (w.heap.size + 1))
  have HBz := hid hE0.below
  rw [← hz] at bL bN hSt hKb HBz hsz HKb ⊢
  have HZ := hid hz
  clear hz hE0 bN HI
  refine wpIn_rangeFunc_ownH rfl (by omega) (gf := 77) (lb := #[.pointer (some ⟨z + 1, 0, none⟩)]) rfl trivial (enters_of Tryd.func77 (by kernel_rfl) rfl)
    hSt ksK_t (ksK_b hKb) (Below.refl _ _) (fun _ => rfl)
    (fun pre W => (∃ v, Boxed W z 29 v ∧ W.ownsRow z 36 5 v (pre.map Subtype.val).length (spcs (pre.map Subtype.val)) ∧ (∀ g, v.ownBlock = some g → z + 2 ≤ g)) ∧ Below z w W)
    (fun _ _ _ => False)
    (OwnFrom.and (Own.from (holdsRow_own z z 29 36 5 (fun pre : List (Os H) => (pre.map Subtype.val).length) (fun pre => spcs (pre.map Subtype.val)) (fun _ v => ∀ g, v.ownBlock = some g → z + 2 ≤ g)) _) (ownFrom_below (by have := HZ.out; omega) (by omega)))
    (fun _ _ _ _ _ hs _ _ => hs)
    ⟨⟨_, bL, own_nil _ _ _ _, by simp [Value.ownBlock]⟩, HBz.out⟩
    (fun x a' _ => a' = { tmps := #[.pointer pv, undef, .nilFunc, .pointer (some ⟨z, 0, none⟩), .pointer (some ⟨(sb x.val.st).1, 0, none⟩), .pointer pv, sitv (z + 1), .pointer (some ⟨(sb x.val.st).1, 0, none⟩), undef, undef, undef, undef, undef, undef, undef, undef, undef, undef, undef, undef, undef, undef, undef, undef, undef, undef, undef, undef, undef, undef, undef, undef, undef, undef, undef], defers := [] })
    (fun x a' _ X Y row hs hg hr => hs)
    ?assign ?body ?done ?stop
  case assign =>
    rintro l pre x W K hI hK
    gi_wp2
    exact hK _ _ (KeepsFrom.refl _ _) (Ks.refl _ _) hI rfl
  case body =>
    rintro l pre x a' W hl ⟨r, hr⟩ ⟨⟨v, bL1, hrow, hvn⟩, hB1⟩ rfl hpl
    have hx0 : Ext [] w W := by rw [HZ.out] at hB1; exact below_ext hB1
    have hs0 := (HS.out x.val x.property).keep hx0 (by simp) (by simp)
    have c0 := hs0.c0
    have c1 := hs0.c1
    have c2 := hs0.c2
    have c3 := hs0.c3
    have c4 := hs0.c4
    have hpl2 : pre.length + 1 ≤ 1024 := by
      have := HV.out.splen
      have := HV.out.P1
      simp only [List.length_attach] at hpl
      omega
    have hst0 : (sb x.val.st).1 < z := by
      have h1 := lt_of_heap (HS.out x.val x.property).box
      have := HZ.out
      omega
    have hlW : l < W.heap.size := lt_of_heap hr
    obtain ⟨va, vc, rfl, _⟩ := own_slice hrow
    have cz := bL1.cell
    have HbL := hid bL1
    have Hrow := hid hrow
    have HVn := hid hvn
    have HB1 := hid hB1
    clear bL1 hrow hvn hB1 hr bL hpl hs0
    have Hval : Hid (spcs ((pre ++ [x]).map Subtype.val) = spcs (pre.map Subtype.val) ++ [.int .i64 x.val.st, .int .i64 x.val.n, .int .i64 x.val.rm, .int .i64 x.val.S.length, .int .i64 (us x.val.S)]) := by
      show _ = _
      rw [List.map_append, spcs_append]; rfl
    have Hln : Hid (((pre ++ [x]).map Subtype.val).length = (pre.map Subtype.val).length + 1) := by show _ = _; simp
    have hln2 : (pre.map Subtype.val).length ≤ 1024 := by simp; omega
    generalize hLL : spcs (pre.map Subtype.val) = LL at *
    generalize hln : (pre.map Subtype.val).length = ln at *
    clear hLL hln
    generalize hsx : (sb x.val.st).1 = sx at *
    generalize (sb x.val.st).2 = sg at *
    generalize (x.val.st : Int) = x0 at *
    generalize (x.val.n : Int) = x1 at *
    generalize (x.val.rm : Int) = x2 at *
    generalize ((us x.val.S : Nat) : Int) = x3 at *
    generalize x.val.S.length = x4 at *
    gi_wp2_with fail
    refine wpIn_region_heldR (l := [_, _, _, _, _, _, _, _, _, _, _, _, _, _, _, _, _, _, _, _, _, _, _]) (suf := [_, _, _]) (fun w' => w'.cell? ⟨z, 0, none⟩ = some (.slice va ln vc) ∧ w'.cell? ⟨sx, 0, none⟩ = some (.int .i64 x0) ∧ w'.cell? ⟨sx, 1, none⟩ = some (.int .i64 x1) ∧ w'.cell? ⟨sx, 2, none⟩ = some (.int .i64 x2) ∧ w'.cell? ⟨sx, 3, none⟩ = some (.int .i64 x3) ∧ w'.cell? ⟨sx, 4, none⟩ = some (.slice (some ⟨sg, 0, none⟩) x4 x4)) (by kernel_rfl) (by kernel_rfl) (by kernel_rfl) (fun _ _ _ _ _ h => h) (by simpa using ⟨cz, c0, c1, c2, c3, c4⟩) ?_
    simp only [List.cons_append, List.nil_append]
    refine wpPreR_cons (.slice va ln vc) rfl rfl (fun u ⟨h0, h1, h2, h3, h4, h5⟩ => by go_simp) (fun u => rfl) ?_
    refine wpPreR_cons (.pointer (some ⟨sx, 0, none⟩)) rfl rfl (fun u ⟨h0, h1, h2, h3, h4, h5⟩ => by go_simp) (fun u => rfl) ?_
    refine wpPreR_cons (.pointer (some ⟨sx, 0, none⟩)) rfl rfl (fun u ⟨h0, h1, h2, h3, h4, h5⟩ => by go_simp) (fun u => rfl) ?_
    refine wpPreR_cons (.pointer (some ⟨sx, 0, none⟩)) rfl rfl (fun u ⟨h0, h1, h2, h3, h4, h5⟩ => by go_simp) (fun u => rfl) ?_
    refine wpPreR_cons (.int .i64 x0) rfl rfl (fun u ⟨h0, h1, h2, h3, h4, h5⟩ => by go_simp) (fun u => rfl) ?_
    refine wpPreR_cons (.pointer (some ⟨sx, 0, none⟩)) rfl rfl (fun u ⟨h0, h1, h2, h3, h4, h5⟩ => by go_simp) (fun u => rfl) ?_
    refine wpPreR_cons (.pointer (some ⟨sx, 0, none⟩)) rfl rfl (fun u ⟨h0, h1, h2, h3, h4, h5⟩ => by go_simp) (fun u => rfl) ?_
    refine wpPreR_cons (.pointer (some ⟨sx, 1, none⟩)) rfl rfl (fun u ⟨h0, h1, h2, h3, h4, h5⟩ => by go_simp) (fun u => rfl) ?_
    refine wpPreR_cons (.int .i64 x1) rfl rfl (fun u ⟨h0, h1, h2, h3, h4, h5⟩ => by go_simp) (fun u => rfl) ?_
    refine wpPreR_cons (.pointer (some ⟨sx, 0, none⟩)) rfl rfl (fun u ⟨h0, h1, h2, h3, h4, h5⟩ => by go_simp) (fun u => rfl) ?_
    refine wpPreR_cons (.pointer (some ⟨sx, 0, none⟩)) rfl rfl (fun u ⟨h0, h1, h2, h3, h4, h5⟩ => by go_simp) (fun u => rfl) ?_
    refine wpPreR_cons (.pointer (some ⟨sx, 2, none⟩)) rfl rfl (fun u ⟨h0, h1, h2, h3, h4, h5⟩ => by go_simp) (fun u => rfl) ?_
    refine wpPreR_cons (.int .i64 x2) rfl rfl (fun u ⟨h0, h1, h2, h3, h4, h5⟩ => by go_simp) (fun u => rfl) ?_
    refine wpPreR_cons (.pointer (some ⟨sx, 0, none⟩)) rfl rfl (fun u ⟨h0, h1, h2, h3, h4, h5⟩ => by go_simp) (fun u => rfl) ?_
    refine wpPreR_cons (.pointer (some ⟨sx, 0, none⟩)) rfl rfl (fun u ⟨h0, h1, h2, h3, h4, h5⟩ => by go_simp) (fun u => rfl) ?_
    refine wpPreR_cons (.pointer (some ⟨sx, 4, none⟩)) rfl rfl (fun u ⟨h0, h1, h2, h3, h4, h5⟩ => by go_simp) (fun u => rfl) ?_
    refine wpPreR_cons (.slice (some ⟨sg, 0, none⟩) x4 x4) rfl rfl (fun u ⟨h0, h1, h2, h3, h4, h5⟩ => by go_simp) (fun u => rfl) ?_
    refine wpPreR_cons (.int .i64 x4) rfl rfl (fun u ⟨h0, h1, h2, h3, h4, h5⟩ => by go_simp) (fun u => rfl) ?_
    refine wpPreR_cons (.pointer (some ⟨sx, 0, none⟩)) rfl rfl (fun u ⟨h0, h1, h2, h3, h4, h5⟩ => by go_simp) (fun u => rfl) ?_
    refine wpPreR_cons (.pointer (some ⟨sx, 0, none⟩)) rfl rfl (fun u ⟨h0, h1, h2, h3, h4, h5⟩ => by go_simp) (fun u => rfl) ?_
    refine wpPreR_cons (.pointer (some ⟨sx, 3, none⟩)) rfl rfl (fun u ⟨h0, h1, h2, h3, h4, h5⟩ => by go_simp) (fun u => rfl) ?_
    refine wpPreR_cons (.int .i64 x3) rfl rfl (fun u ⟨h0, h1, h2, h3, h4, h5⟩ => by go_simp) (fun u => rfl) ?_
    refine wpPreR_cons (.agg #[.int .i64 x0, .int .i64 x1, .int .i64 x2, .int .i64 x4, .int .i64 x3]) rfl rfl (fun u ⟨h0, h1, h2, h3, h4, h5⟩ => by go_simp) (fun u => rfl) ?_
    show wpSeqR _ _ _ _ _ _ _ _ _
    have hEd : Ext [] W (W.drew) := Ext.drew [] _
    refine wpSeqR_step (fun K2 hK2 => ?_)
    go_simp
    obtain ⟨u, hu⟩ : ∃ u, u = (W.alloc (.cells #[.int .i64 x0, .int .i64 x1, .int .i64 x2, .int .i64 x4, .int .i64 x3] 36)).drew := ⟨_, rfl⟩
    rw [← hu]
    have hEb : Ext [] W u := by rw [hu]; exact (Ext.alloc [] _ _).trans (Ext.drew [] _)
    have hnew : u.heap[W.heap.size]? = some (.cells #[.int .i64 x0, .int .i64 x1, .int .i64 x2, .int .i64 x4, .int .i64 x3] 36 (0, 0)) := by rw [hu]; exact (Ext.drew [] _).keep (heap_alloc_new W _) (by simp)
    clear hu hEd
    refine hK2 _ _ (.inr ⟨hEb.cell cz (by simp), hEb.cell c0 (by simp), hEb.cell c1 (by simp), hEb.cell c2 (by simp), hEb.cell c3 (by simp), hEb.cell c4 (by simp)⟩) ?_
    clear hK2 K2
    refine wpSeqR_step (fun K3 hK3 => ?_)
    obtain ⟨v', w', hr5, ho5, hg5, _, hn5⟩ := run_append_own_at (P := Tryd.prog) u z 29 29 36 i0 _ 5 40 Tryd.underlying29 HI0.out HZ0.out hz1 hz2 rfl (by decide) (.slice va ln vc) ln LL (own_keep0 Hrow.out hEb) ⟨W.heap.size, 0, none⟩ 1 1 [.int .i64 x0, .int .i64 x1, .int .i64 x2, .int .i64 x4, .int .i64 x3] rfl (fun j u2 hu2 => by rw [Addr.add_lit, cell_of_row _ _ _ _ _ _ hnew, Nat.zero_add, ← hu2]; simp) (by simp [Value.oneCell']) (by unfold maxLen; omega) (by omega) (by have := HbL.out.lt; have := hEb.size; omega)
    refine stepR_append (fun _ => trivial) rfl _ _ 29 rfl (.slice va ln vc) (.slice (some ⟨W.heap.size, 0, none⟩) 1 1) v' rfl rfl hr5 ?_
    have hx5 := ext_grown hg5
    have hout : ∀ k, k < z + 2 → k ∉ (Value.slice va ln vc).ownBlock.toList := by
      intro k hk hm
      rw [Option.mem_toList] at hm
      have := HVn.out k hm
      omega
    have hbz : Boxed w' z 29 (.slice va ln vc) := hx5.keep (hEb.keep HbL.out (by simp)) (hout z (by omega))
    obtain ⟨a5, c5, hv5, _⟩ := own_slice ho5
    have hvn5 : ∀ g, v'.ownBlock = some g → z + 2 ≤ g := fun g hg => by
      rcases hn5 with q | q
      · rw [q] at hg; exact HVn.out g hg
      · rw [q] at hg; simp at hg; have := hEb.size; omega
    have cz' := hbz.cell
    have fz' := hbz.frozen
    refine hK3 _ _ (.inr ⟨cz', hx5.cell (hEb.cell c0 (by simp)) (hout sx (by omega)), hx5.cell (hEb.cell c1 (by simp)) (hout sx (by omega)), hx5.cell (hEb.cell c2 (by simp)) (hout sx (by omega)), hx5.cell (hEb.cell c3 (by simp)) (hout sx (by omega)), hx5.cell (hEb.cell c4 (by simp)) (hout sx (by omega))⟩) ?_
    clear hK3 K3
    have HFin : Hid (((∃ v, Boxed (w'.setCell ⟨z, 0, none⟩ v') z 29 v ∧ (w'.setCell ⟨z, 0, none⟩ v').ownsRow z 36 5 v ((pre ++ [x]).map Subtype.val).length (spcs ((pre ++ [x]).map Subtype.val)) ∧ (∀ g, v.ownBlock = some g → z + 2 ≤ g)) ∧ Below z w (w'.setCell ⟨z, 0, none⟩ v')) ∧ KeepsOthers W (w'.setCell ⟨z, 0, none⟩ v') ∧ Ks (K (z + 1)) W (w'.setCell ⟨z, 0, none⟩ v')) := by
      have hx6 := Ext.setCell [z] w' ⟨z, 0, none⟩ v' (by simp)
      have hblk : ∀ k, k < W.heap.size → k ≠ z → k < z + 2 → (w'.setCell ⟨z, 0, none⟩ v').heap[k]? = W.heap[k]? := fun k hk hkz hk2 => by
        rw [hx6.block k (by have := hx5.size; have := hEb.size; omega) (by simpa using hkz), hx5.block k (by have := hEb.size; omega) (hout k hk2), hEb.block k (by omega) (by simp)]
      refine ⟨⟨⟨v', hbz.set v', ?_, hvn5⟩, ?_⟩, ?_, ?_⟩
      · rw [Hval.out, Hln.out]
        refine own_keep ho5 hx6 (fun b hb hv => ?_)
        simp only [List.mem_singleton] at hb
        have := hvn5 b hv
        omega
      · have hb7 : Below z W (w'.setCell ⟨z, 0, none⟩ v') :=
          ⟨hx6.os.trans (hx5.os.trans hEb.os), hx6.tape.trans (hx5.tape.trans hEb.tape), hx6.output.trans (hx5.output.trans hEb.output), Nat.le_trans hEb.size (Nat.le_trans hx5.size hx6.size), fun k hk => hblk k (by omega) (by omega) (by omega)⟩
        exact HB1.out.trans hb7
      · refine (keepsOthers_of_ext hEb (by simp)).trans ((keepsOthers_of_ext hx5 (fun b hb _ => ?_)).trans (KeepsOthers.setCell _ _ _))
        rw [Option.mem_toList] at hb
        rcases (own_keep0 Hrow.out hEb).2 with ⟨q, _⟩ | ⟨g, cap, cur, q, _, hg, _⟩
        · rw [q] at hb; simp [Value.ownBlock] at hb
        · rw [q] at hb; simp [Value.ownBlock] at hb; subst hb; exact ⟨_, _, _, hg⟩
      · intro b hb o ho
        rcases HKb.out b hb with rfl | hbz
        · rw [hblk (z + 1) (by omega) (by omega) (by omega)]; exact ho
        · have hbz2 : b < z := by have := HZ.out; omega
          rw [hblk b (by omega) (by omega) (by omega)]; exact ho
    subst hv5
    clear hx5 hout hbz hvn5 hg5 ho5 hr5 hEb cz c0 c1 c2 c3 c4
    refine wpSeqR_step (fun K4 hK4 => ?_)
    go_simp
    refine hK4 _ _ (.inl rfl) ?_
    clear hK4 K4
    refine wpSeqR_nil ?_
    gi_wp2_with fail
    exact ⟨HFin.out.2.1.from _, HFin.out.2.2, HFin.out.1⟩
  case done =>
    rintro D zs W hD rfl ⟨⟨v, bL1, hrow, hvn⟩, hB1⟩ hK
    obtain ⟨va, vc, rfl, _⟩ := own_slice hrow
    rw [List.attach_map_subtype_val] at hrow
    have cz := bL1.cell
    have KV := fun u => values29 (.slice va (H.sp.attach.map Subtype.val).length vc) ⟨_, _, _, rfl⟩ u
    rw [List.attach_map_subtype_val] at KV cz
    have Hrow := hid hrow
    have HB1 := hid hB1
    have HVn := hid hvn
    have HK := hid hK
    clear bL1 hrow hvn hB1 hK
    generalize hln : H.sp.length = ln at *
    have HLn := hid hln.symm
    clear hln
    gi_wp2_with (first | (refine ⟨trivial, ?_⟩; gi_at_call 63; refine (callsIn_wide.2 (KV _)).mono ?_; rintro e w' ⟨rfl, rfl⟩) | fail "no arm")
    have hK2 := (KeepsOthers.alloc W (.cells #[.slice va ln vc] 29)).same _ _ HK.out rfl
    refine ⟨by simp, .inl ⟨_, _, rfl, run_takeDeferred hK2, ?_⟩⟩
    have hP := grownBy_putObj' (W.alloc (.cells #[.slice va ln vc] 29)) D (.deferred none)
    have hx1 := Ext.alloc [] W (.cells #[.slice va ln vc] 29)
    have hx2 := Ext.grown (S := [D]) hP (by simp)
    have hx0 : Ext [] w W := by have h := HB1.out; rw [HZ.out] at h; exact below_ext h
    have hDW := lt_of_heap HK.out
    have hz2 := HZ.out
    refine ⟨_, results_tmp rfl _ _ _, W.heap.size, .slice va ln vc, rfl, ?_, ?_, ?_, ?_, ?_⟩
    · exact hx2.keep (heap_alloc_new W _) (by simp; omega)
    · have h1 := own_keep0 Hrow.out hx1
      unfold Spl
      rw [← HLn.out]
      refine own_base (own_keep h1 hx2 (fun b hb hv => ?_)) (Nat.zero_le _)
      simp only [List.mem_singleton] at hb
      subst hb
      rcases h1.2 with ⟨q, _⟩ | ⟨g, cap, cur, q, _, hg, _⟩
      · rw [q] at hv; simp [Value.ownBlock] at hv
      · rw [q] at hv; simp [Value.ownBlock] at hv; subst hv; rw [hK2] at hg; simp at hg
    · have := hx0.size; exact this
    · intro g hg
      have := HVn.out g (by cases va <;> exact hg)
      omega
    · exact (hx0.trans hx1).on hx2 (by simp; omega)
  case stop =>
    rintro D c pre W _ _ h _
    exact h.elim

end Go.Proofs.YtlajjcboahflbaaDoor
