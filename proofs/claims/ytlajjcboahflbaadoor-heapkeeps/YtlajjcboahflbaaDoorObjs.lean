/-
  Objects: all objects of a heap, in a list of their own; no statement is proved here.
-/
import Derived.Test.YtlajjcboahflbaaDoorObject
import Derived.Test.YtlajjcboahflbaaDoorHeldR
namespace Go.Proofs.YtlajjcboahflbaaDoor
open Go.RowKit Go.Shelf

attribute [local go_sem] Oper.semAt_some

/-- An object: address, size, tag. -/
abbrev Ob := Int × Int × Int
def obc (o : Ob) : List Value := [.int .i64 o.1, .int .i64 o.2.1, .int .i64 o.2.2, .slice none 0 0]
def obcs (L : List Ob) : List Value := L.flatMap obc
theorem obcs_append (A B : List Ob) : obcs (A ++ B) = obcs A ++ obcs B := by simp [obcs]
theorem obcs_len (L : List Ob) : (obcs L).length = L.length * 4 := by
  induction L with
  | nil => rfl
  | cons o L ih => simp [obcs, obc] at ih ⊢; omega
def Obl (w : World) (v : Value) (L : List Ob) : Prop := w.ownsRow 0 34 4 v L.length (obcs L)
theorem obl_nil (w : World) : Obl w (.slice none 0 0) [] := own_nil _ _ _ _

theorem Obl.push {w : World} {v : Value} {L : List Ob} (h : Obl w v L) (g : Nat) (o : Ob) (hg : w.heap[g]? = some (.cells #[.int .i64 o.1, .int .i64 o.2.1, .int .i64 o.2.2, .slice none 0 0] 34 (0, 0))) (hl : L.length ≤ 1000000) (ty : TypeId) :
    ∃ v' w', (Builtin.append_ #[28, 28] ty #[v, .slice (some ⟨g, 0, none⟩) 1 1]).run Tryd.prog w = .ok v' w' ∧ Obl w' v' (L ++ [o]) ∧ Ext v.ownBlock.toList w w' ∧ w.grownBy w' v.ownBlock ∧ (v'.ownBlock = v.ownBlock ∨ v'.ownBlock = some w.heap.size) := by
  obtain ⟨i, hi0, hz0, hz1, hz2⟩ := info_parts info34
  obtain ⟨v', w', hr, ho, hgr, _, hn⟩ := run_append_own_at (P := Tryd.prog) w 0 28 ty 34 i _ 4 48 Tryd.underlying28 hi0 hz0 hz1 hz2 rfl (by decide) v L.length (obcs L) h ⟨g, 0, none⟩ 1 1 (obc o) rfl (fun j u hu => by
    rw [Addr.add_lit, cell_of_row _ _ _ _ _ _ hg, Nat.zero_add, ← hu]; simp [obc]) (by simp [obc, Value.oneCell']) (by unfold maxLen; omega) (by omega) (by omega)
  refine ⟨v', w', hr, ?_, ext_grown hgr, hgr, hn⟩
  unfold Obl
  rw [List.length_append, obcs_append]
  simpa [obcs] using ho

/-- The objects in the first i slots of a span. -/
def sobs (x : Spn) : Nat → List Ob
  | 0 => []
  | i + 1 => sobs x i ++ (if 0 < (x.S.getD i (0, 0)).1 then [(((adr x i : Nat) : Int), (x.S.getD i (0, 0)).1, (x.S.getD i (0, 0)).2)] else [])
def objs (L : List Spn) : List Ob := L.flatMap fun x => sobs x x.S.length
theorem sobs_len (x : Spn) : ∀ i, (sobs x i).length ≤ i
  | 0 => by simp [sobs]
  | i + 1 => by have := sobs_len x i; simp only [sobs, List.length_append]; split <;> simp <;> omega

theorem objs_snoc (L : List Spn) (x : Spn) : objs (L ++ [x]) = objs L ++ sobs x x.S.length := by simp [objs]
theorem sobs_yes {x : Spn} {i : Nat} (h : 0 < (x.S.getD i (0, 0)).1) : sobs x (i + 1) = sobs x i ++ [(((adr x i : Nat) : Int), (x.S.getD i (0, 0)).1, (x.S.getD i (0, 0)).2)] := by rw [sobs, if_pos h]
theorem sobs_no {x : Spn} {i : Nat} (h : ¬ 0 < (x.S.getD i (0, 0)).1) : sobs x (i + 1) = sobs x i := by rw [sobs, if_neg h, List.append_nil]

/-- A bound on how many objects there are. -/
theorem objs_len {H : Hs} (h : Hv H) : ∀ L : List Spn, (∀ x ∈ L, x ∈ H.sp) → (objs L).length ≤ L.length * 65536
  | [], _ => by simp [objs]
  | x :: L, hm => by
    have ih := objs_len h L (fun y hy => hm y (List.mem_cons_of_mem _ hy))
    have h1 := sobs_len x x.S.length
    have hx := hm x (by simp)
    have h2 := (h.ok x hx).len2 (by have := h.le hx; have := h.P1; omega)
    simp only [objs, List.flatMap_cons, List.length_append, List.length_cons] at ih ⊢
    omega

def ovit (Bn : Nat) : Value := .func (.func 78) #[] #[.pointer (some ⟨Bn, 0, none⟩)]
theorem values28 (v : Value) (hv : ∃ a n c, v = .slice a n c) (w : World) : Calls Tryd.prog 53 #[v] w fun e w' => e = .returned (ovit w.heap.size) ∧ w' = w.alloc (.cells #[v] 28) := by
  obtain ⟨a, n, c, rfl⟩ := hv
  go_enter Tryd.func53, Tryd.ntmps53
  go_wp2
  go_ret
  exact ⟨rfl, rfl⟩

def ObPost (w : World) (L : List Ob) (e : Ending) (w' : World) : Prop := ∃ Bn v, e = .returned (ovit Bn) ∧ Boxed w' Bn 28 v ∧ Obl w' v L ∧ w.heap.size ≤ Bn ∧ (∀ g, v.ownBlock = some g → w.heap.size ≤ g) ∧ Ext [] w w'

theorem keepsOthers_of_ext {S : List Nat} {A B : World} (x : Ext S A B) (hS : ∀ b ∈ S, b < A.heap.size → ∃ cs t m, A.heap[b]? = some (.cells cs t m)) : KeepsOthers A B := by
  refine ⟨x.size, fun k o hk ho => ?_⟩
  by_cases hs : k ∈ S
  · obtain ⟨cs, t, m, hc⟩ := hS k hs (lt_of_heap hk)
    rw [hk] at hc; cases hc; cases ho
  · exact x.keep hk hs

/-- What an iterator over spans gives a loop, wherever it is called. -/
def SpIt (w : World) (pv : Option Addr) (H : Hs) (sb : Nat → Nat × Nat) (K : Nat → List Nat) : Prop :=
  (∀ W Bn, Ext [] w W → w.heap.size ≤ Bn → Boxed W Bn 23 (.pointer pv) → SeqStopsK Fence.wide 7 Tryd.prog 77 #[.pointer (some ⟨Bn, 0, none⟩)] (fun x : Os H => #[.pointer (some ⟨(sb x.val.st).1, 0, none⟩)]) (Ks (K Bn)) (fun ys => ys = H.sp.attach) (fun pre => pre <+: H.sp.attach) H.sp.attach.length W) ∧
  (∀ Bn, ∀ b ∈ K Bn, b = Bn ∨ b < w.heap.size)

set_option maxRecDepth 100000 in
set_option maxHeartbeats 8000000 in
theorem objects_of (pv : Option Addr) (H : Hs) (sb : Nat → Nat × Nat) (K : Nat → List Nat) (w : World) (hv : Hv H) (hS : ∀ x ∈ H.sp, Sp w (sb x.st).1 (sb x.st).2 x.st x.n x.rm (us x.S) x.S) (hI : SpIt w pv H sb K) : Calls Tryd.prog 25 #[.pointer pv] w (ObPost w (objs H.sp)) := by
  refine (callsIn_wide (n := 8)).1 ?_
  refine callsIn_of_wp_marks Tryd.func25 rfl trivial ?_ rfl
  simp only [Tryd.ntmps25, List.size_toArray, List.length_cons, List.length_nil, Nat.reduceAdd, Nat.reduceSub, Array.replicate_succ, Array.replicate_zero, List.push_toArray, List.append_toArray, List.nil_append, List.cons_append]
  have K1 := fun u => spans_any pv u
  obtain ⟨i0, hi0, hzz0, hz1, hz2⟩ := info_parts info34
  have HI0 := hid hi0
  have HZ0 := hid hzz0
  clear hi0 hzz0
  have HS := hid hS
  have HV := hid hv
  have HI := hid hI
  clear hS hv hI
  gi_wp2_with (refine ⟨trivial, ?_⟩; gi_at_call 52; refine (callsIn_wide.2 (K1 _)).mono ?_; rintro e w' ⟨rfl, rfl⟩)
  clear K1
  obtain ⟨z, hz⟩ : ∃ z, z = w.heap.size := ⟨_, rfl⟩
  have hE0 : Ext [] w ((w.alloc (.cells #[.slice none 0 0] 28)).alloc (.cells #[.pointer pv] 23)) := (Ext.alloc [] _ _).trans (Ext.alloc [] _ _)
  have bL := (Boxed.new w 28 (.slice none 0 0)).alloc (.cells #[.pointer pv] 23)
  have bN := Boxed.new (w.alloc (.cells #[.slice none 0 0] 28)) 23 (.pointer pv)
  simp only [World.size_alloc] at bN
  have hsz : ((w.alloc (.cells #[.slice none 0 0] 28)).alloc (.cells #[.pointer pv] 23)).heap.size = w.heap.size + 2 := by simp
  obtain ⟨W0, hW0⟩ : ∃ W0, (w.alloc (.cells #[.slice none 0 0] 28)).alloc (.cells #[.pointer pv] 23) = W0 := ⟨_, rfl⟩
  rw [hW0] at bL bN hE0 hsz ⊢
  clear hW0
  have hSt := HI.out.1 W0 (w.heap.size + 1) hE0 (by omega) bN
  have hKb : ∀ b ∈ K (w.heap.size + 1), b < W0.heap.size := fun b hb => by rcases HI.out.2 _ b hb with q | q <;> omega
  have HKb := hid (HI.out.2 (w.heap.size + 1))
  have HBz := hid hE0.below
  rw [← hz] at bL bN hSt hKb HBz hsz HKb ⊢
  have HZ := hid hz
  clear hz hE0 bN HI
  refine wpIn_rangeFunc_ownH rfl (by omega) (gf := 77) (lb := #[.pointer (some ⟨z + 1, 0, none⟩)]) rfl trivial (enters_of Tryd.func77 (by kernel_rfl) rfl)
    hSt ksK_t (ksK_b hKb) (Below.refl _ _) (fun _ => rfl)
    (fun pre W => (∃ v, Boxed W z 28 v ∧ W.ownsRow z 34 4 v (objs (pre.map Subtype.val)).length (obcs (objs (pre.map Subtype.val))) ∧ (∀ g, v.ownBlock = some g → z + 2 ≤ g)) ∧ Below z w W)
    (fun _ _ _ => False)
    (OwnFrom.and (Own.from (holdsRow_own z z 28 34 4 (fun pre : List (Os H) => (objs (pre.map Subtype.val)).length) (fun pre => obcs (objs (pre.map Subtype.val))) (fun _ v => ∀ g, v.ownBlock = some g → z + 2 ≤ g)) _) (ownFrom_below (by have := HZ.out; omega) (by omega)))
    (fun _ _ _ _ _ hs _ _ => hs)
    ⟨⟨_, bL, own_nil _ _ _ _, by simp [Value.ownBlock]⟩, HBz.out⟩
    (fun x a' _ => a' = { tmps := #[.pointer pv, undef, .nilFunc, .pointer (some ⟨z, 0, none⟩), .pointer (some ⟨(sb x.val.st).1, 0, none⟩), undef, .pointer pv, sitv (z + 1), .pointer (some ⟨(sb x.val.st).1, 0, none⟩), undef, undef, undef, undef, undef, undef, undef, undef, undef, undef, undef, undef, undef, undef, undef, undef, undef, undef, undef, undef, undef, undef, undef, undef, undef, undef], defers := [] })
    (fun x a' _ X Y row hs hg hr => hs)
    ?assign ?body ?done ?stop
  case assign =>
    rintro l pre x W K hI hK
    gi_wp2
    exact hK _ _ (KeepsFrom.refl _ _) (Ks.refl _ _) hI rfl
  case body =>
    rintro l pre x a' W hl ⟨r, hr⟩ ⟨⟨v, bL1, hrow, hvn⟩, hB1⟩ rfl hpl
    have hx0 : Ext [] w W := by rw [HZ.out] at hB1; exact below_ext hB1
    have hs0 := (HS.out x.val x.property).keep hx0 (by simp) (by simp)
    have c4 := hs0.c4
    have hxo := HV.out.ok x.val x.property
    have hle := HV.out.le x.property
    have hP := HV.out.P1
    have hl2 := hxo.len2 (by omega)
    have hlen := objs_len HV.out ((pre ++ [x]).map Subtype.val) (fun y hy => by obtain ⟨q, _, rfl⟩ := List.mem_map.1 hy; exact q.property)
    have hpl2 : pre.length + 1 ≤ 1024 := by
      have := HV.out.splen
      simp only [List.length_attach] at hpl
      omega
    have hst0 : (sb x.val.st).1 < z ∧ (sb x.val.st).2 < z := by
      have h1 := lt_of_heap (HS.out x.val x.property).box
      have h2 := lt_of_heap (HS.out x.val x.property).row
      have := HZ.out
      omega
    have HJ0 : Hid ((∃ v, Boxed W z 28 v ∧ W.ownsRow z 34 4 v (objs (pre.map Subtype.val) ++ sobs x.val 0).length (obcs (objs (pre.map Subtype.val) ++ sobs x.val 0)) ∧ (∀ g, v.ownBlock = some g → z + 2 ≤ g)) ∧ Below z w W ∧ KeepsOthers W W ∧ Ext [z] W W) := by
      refine ⟨⟨v, bL1, ?_, hvn⟩, hB1, KeepsOthers.refl _, Ext.refl _ _⟩
      simp only [sobs, List.append_nil]
      exact hrow
    have HBW := hid hB1
    have hlW : l < W.heap.size := lt_of_heap hr
    clear bL1 hrow hvn hB1 hr bL hpl
    generalize hnn : x.val.S.length = nn at *
    gi_wp2_with fail
    gi_loopw [14] (fun q wr => ∃ i : Nat, q = .int .i64 i ∧ i ≤ nn ∧ (∃ v, Boxed wr z 28 v ∧ wr.ownsRow z 34 4 v (objs (pre.map Subtype.val) ++ sobs x.val i).length (obcs (objs (pre.map Subtype.val) ++ sobs x.val i)) ∧ (∀ g, v.ownBlock = some g → z + 2 ≤ g)) ∧ Below z w wr ∧ KeepsOthers W wr ∧ wr.heap[z + 1]? = W.heap[z + 1]?) (fun q _ => (nn - (intOf q)).toNat)
    case atStart => exact ⟨0, rfl, Nat.zero_le _, HJ0.out.1, HJ0.out.2.1, HJ0.out.2.2.1, rfl⟩
    case round =>
      clear HJ0
      obtain ⟨i, rfl, hi, ⟨v, bL1, hrow, hvn⟩, hB1, hK1, hq1⟩ := hrel
      by_cases hin : i < nn
      · have hini : (i : Int) < nn := by omega
        have hx1 : Ext [] w wr := by rw [HZ.out] at hB1; exact below_ext hB1
        have hs1 := (HS.out x.val x.property).keep hx1 (by simp) (by simp)
        have d4 := hs1.c4
        rw [hnn] at d4
        obtain ⟨e0, e1⟩ := hs1.at_ (i := i) (by omega)
        by_cases hsz : 0 < (x.val.S.getD i (0, 0)).1
        · obtain ⟨va, vc, rfl, _⟩ := own_slice hrow
          have cz := bL1.cell
          have fz0 := bL1.frozen
          have had : ((x.val.st : Int) + 1) * 256 + i * x.val.rm = ((adr x.val i : Nat) : Int) := by unfold adr; simp
          have KO : Hid (∀ u, Ext [] wr u → Calls Tryd.prog 34 #[.pointer (some ⟨(sb x.val.st).1, 0, none⟩), .int .i64 i] u (SayPost u (.agg #[.int .i64 (adr x.val i : Nat), .int .i64 (x.val.S.getD i (0, 0)).1, .int .i64 (x.val.S.getD i (0, 0)).2, .slice none 0 0]))) := fun u hu => by
            have := object_any _ _ _ _ _ _ i _ u (hs1.keep hu (by simp) (by simp)) (by omega) (by have := hxo.rm2; omega) (by omega) (by omega)
            rw [had] at this
            exact this
          have hll : (objs (pre.map Subtype.val) ++ sobs x.val i).length ≤ 1000000000 := by
            have h1 := sobs_len x.val i
            have h2 := objs_len HV.out (pre.map Subtype.val) (fun y hy => by obtain ⟨q, _, rfl⟩ := List.mem_map.1 hy; exact q.property)
            simp only [List.length_append, List.length_map] at h2 ⊢
            omega
          have HB1 := hid hB1
          have HK1 := hid hK1
          have HQ1 := hid hq1
          have HbL := hid bL1
          have Hrow := hid hrow
          have HVn := hid hvn
          have Hsob := hid (sobs_yes hsz)
          clear bL1 hrow hvn hB1 hK1 hq1 hs1 hx1 had
          generalize hLL : objs (pre.map Subtype.val) ++ sobs x.val i = LL at *
          generalize hz0 : (x.val.S.getD i (0, 0)).1 = sz0 at *
          generalize (x.val.S.getD i (0, 0)).2 = tg0 at *
          generalize hs : (sb x.val.st).1 = sx at *
          generalize ((adr x.val i : Nat) : Int) = ad at *
          generalize hln : LL.length = ln at *
          have HLn := hid hln
          clear hln
          gi_wp2_with fail
          refine wpIn_region_heldR (l := [_, _, _]) (suf := [_, _, _, _]) (fun w' => w'.cell? ⟨z, 0, none⟩ = some (.slice va ln vc)) (by kernel_rfl) (by kernel_rfl) (by kernel_rfl) (fun _ _ _ _ _ h => h) (by simpa using cz) ?_
          simp only [List.cons_append, List.nil_append]
          refine wpPreR_cons (.slice va ln vc) rfl rfl (fun u hu => by go_simp) (fun u => rfl) ?_
          refine wpPreR_cons (.pointer (some ⟨sx, 0, none⟩)) rfl rfl (fun u hu => by go_simp) (fun u => rfl) ?_
          refine wpPreR_cons (.int .i64 i) rfl rfl (fun u hu => by go_simp) (fun u => rfl) ?_
          show wpSeqR _ _ _ _ _ _ _ _ _
          refine wpSeqR_step (fun K1 hK1 => ?_)
          go_simp
          refine ⟨trivial, ((callsIn_wide.2 (KO.out _ (Ext.drew _ _))).inRound l).mono ?_⟩
          rintro e u ⟨rfl, hu⟩
          have hEu : Ext [] wr u := (Ext.drew [] _).trans hu
          refine hK1 _ _ (.inr (hEu.cell cz (by simp))) ?_
          clear hK1 K1
          refine wpSeqR_step (fun K2 hK2 => ?_)
          go_simp
          have hEb : Ext [] wr (u.alloc (.cells #[.int .i64 ad, .int .i64 sz0, .int .i64 tg0, .slice none 0 0] 34)) := hEu.trans (Ext.alloc [] _ _)
          refine hK2 _ _ (.inr (hEb.cell cz (by simp))) ?_
          clear hK2 K2
          refine wpSeqR_step (fun K3 hK3 => ?_)
          obtain ⟨v', w', hr5, ho5, hg5, _, hn5⟩ := run_append_own_at (P := Tryd.prog) (u.alloc (.cells #[.int .i64 ad, .int .i64 sz0, .int .i64 tg0, .slice none 0 0] 34)) z 28 28 34 i0 _ 4 48 Tryd.underlying28 HI0.out HZ0.out hz1 hz2 rfl (by decide) (.slice va ln vc) ln (obcs LL) (own_keep0 Hrow.out hEb) ⟨u.heap.size, 0, none⟩ 1 1 [.int .i64 ad, .int .i64 sz0, .int .i64 tg0, .slice none 0 0] rfl (fun j u2 hu2 => by rw [Addr.add_lit, cell_of_row _ _ _ _ _ _ (heap_alloc_new u _), Nat.zero_add, ← hu2]; simp) (by simp [Value.oneCell']) (by unfold maxLen; omega) (by omega) (by have := HbL.out.lt; have := hEb.size; omega)
          refine stepR_append (fun _ => trivial) rfl _ _ 28 rfl (.slice va ln vc) (.slice (some ⟨u.heap.size, 0, none⟩) 1 1) v' rfl rfl hr5 ?_
          have hx5 := ext_grown hg5
          have hzv : z ∉ (Value.slice va ln vc).ownBlock.toList := by
            intro hm
            rw [Option.mem_toList] at hm
            have := HVn.out z hm
            omega
          have hzv1 : z + 1 ∉ (Value.slice va ln vc).ownBlock.toList := by
            intro hm
            rw [Option.mem_toList] at hm
            have := HVn.out (z + 1) hm
            omega
          have hbz : Boxed w' z 28 (.slice va ln vc) := hx5.keep (hEb.keep HbL.out (by simp)) hzv
          have hzl := HbL.out.lt
          have hul := hEu.size
          have hz2l : z + 2 ≤ wr.heap.size := by
            have := HK1.out.size
            have := hsz
            have := HBW.out.size
            omega
          obtain ⟨a5, c5, hv5, _⟩ := own_slice ho5
          have hvn5 : ∀ g, v'.ownBlock = some g → z + 2 ≤ g := fun g hg => by
            rcases hn5 with q | q
            · rw [q] at hg; exact HVn.out g hg
            · rw [q] at hg; simp at hg; omega
          have cz' := hbz.cell
          have fz' := hbz.frozen
          refine hK3 _ _ (.inr cz') ?_
          clear hK3 K3
          have HFin : Hid ((∃ v, Boxed (w'.setCell ⟨z, 0, none⟩ v') z 28 v ∧ (w'.setCell ⟨z, 0, none⟩ v').ownsRow z 34 4 v (objs (pre.map Subtype.val) ++ sobs x.val (i + 1)).length (obcs (objs (pre.map Subtype.val) ++ sobs x.val (i + 1))) ∧ (∀ g, v.ownBlock = some g → z + 2 ≤ g)) ∧ Below z w (w'.setCell ⟨z, 0, none⟩ v') ∧ KeepsOthers W (w'.setCell ⟨z, 0, none⟩ v') ∧ (w'.setCell ⟨z, 0, none⟩ v').heap[z + 1]? = W.heap[z + 1]?) := by
            have hx6 := Ext.setCell [z] w' ⟨z, 0, none⟩ v' (by simp)
            refine ⟨⟨v', hbz.set v', ?_, hvn5⟩, ?_, ?_, ?_⟩
            · rw [Hsob.out, ← List.append_assoc, hLL, obcs_append, List.length_append, HLn.out]
              refine own_keep (by simpa [obcs, obc] using ho5) hx6 (fun b hb hv => ?_)
              simp only [List.mem_singleton] at hb
              have := hvn5 b hv
              omega
            · have hb7 : Below z wr (w'.setCell ⟨z, 0, none⟩ v') := by
                refine ⟨hx6.os.trans (hx5.os.trans hEb.os), hx6.tape.trans (hx5.tape.trans hEb.tape), hx6.output.trans (hx5.output.trans hEb.output), Nat.le_trans hEb.size (Nat.le_trans hx5.size hx6.size), fun k hk => ?_⟩
                have hkv : k ∉ (Value.slice va ln vc).ownBlock.toList := by
                  intro hm
                  rw [Option.mem_toList] at hm
                  have := HVn.out k hm
                  omega
                rw [hx6.block k (by have := hx5.size; have := hEb.size; omega) (by simp; omega), hx5.block k (by have := hEb.size; omega) hkv, hEb.block k (by omega) (by simp)]
              exact HB1.out.trans hb7
            · refine HK1.out.trans ((keepsOthers_of_ext hEb (by simp)).trans ((keepsOthers_of_ext hx5 (fun b hb _ => ?_)).trans (KeepsOthers.setCell _ _ _)))
              rw [Option.mem_toList] at hb
              rcases (own_keep0 Hrow.out hEb).2 with ⟨q, _⟩ | ⟨g, cap, cur, q, _, hg, _⟩
              · rw [q] at hb; simp [Value.ownBlock] at hb
              · rw [q] at hb; simp [Value.ownBlock] at hb; subst hb; exact ⟨_, _, _, hg⟩
            · rw [hx6.block (z + 1) (by have := hx5.size; have := hEb.size; omega) (by simp), hx5.block (z + 1) (by have := hEb.size; omega) hzv1, hEb.block (z + 1) (by omega) (by simp)]
              exact HQ1.out
          subst hv5
          clear hx5 hzv hzv1 hbz hvn5 hg5 ho5 hr5 hEb hEu hu cz fz0
          refine wpSeqR_step (fun K4 hK4 => ?_)
          go_simp
          refine hK4 _ _ (.inl rfl) ?_
          clear hK4 K4
          refine wpSeqR_nil ?_
          gi_wp2_with fail
          go_roundw
          case rel => exact ⟨i + 1, by go_num, by omega, HFin.out⟩
          case measure => simp [intOf]; omega
        · have HR : Hid (∃ v, Boxed wr z 28 v ∧ wr.ownsRow z 34 4 v (objs (pre.map Subtype.val) ++ sobs x.val (i + 1)).length (obcs (objs (pre.map Subtype.val) ++ sobs x.val (i + 1))) ∧ (∀ g, v.ownBlock = some g → z + 2 ≤ g)) := by
            rw [sobs_no hsz]; exact ⟨v, bL1, hrow, hvn⟩
          have HB1 := hid hB1
          have HK1 := hid hK1
          have HQ1 := hid hq1
          clear bL1 hrow hvn hB1 hK1 hq1 hs1 hx1
          generalize (x.val.S.getD i (0, 0)).1 = sz0 at *
          generalize (x.val.S.getD i (0, 0)).2 = tg0 at *
          gi_wp2_with fail
          go_roundw
          case rel => exact ⟨i + 1, by go_num, by omega, HR.out, HB1.out, HK1.out, HQ1.out⟩
          case measure => simp [intOf]; omega
      · obtain rfl : i = nn := by omega
        have HR : Hid ((∃ v, Boxed wr z 28 v ∧ wr.ownsRow z 34 4 v (objs (pre.map Subtype.val) ++ sobs x.val i).length (obcs (objs (pre.map Subtype.val) ++ sobs x.val i)) ∧ (∀ g, v.ownBlock = some g → z + 2 ≤ g)) ∧ Below z w wr ∧ KeepsOthers W wr ∧ wr.heap[z + 1]? = W.heap[z + 1]?) := ⟨⟨v, bL1, hrow, hvn⟩, hB1, hK1, hq1⟩
        clear bL1 hrow hvn hB1 hK1 hq1
        gi_wp2_with fail
        obtain ⟨⟨v2, b2, r2, n2⟩, hb2, hk2, hq2⟩ := HR.out
        refine ⟨hk2.from _, fun b hb o ho => ?_, ⟨v2, b2, ?_, n2⟩, hb2⟩
        · rcases HKb.out b hb with rfl | hbz
          · rw [hq2]; exact ho
          · have hbz2 : b < z := by have := HZ.out; omega
            rw [hb2.block b hbz2, ← HBW.out.block b hbz2]; exact ho
        · rw [List.map_append, List.map_cons, List.map_nil, objs_snoc, hnn]
          exact r2
  case done =>
    rintro D zs W hD rfl ⟨⟨v, bL1, hrow, hvn⟩, hB1⟩ hK
    obtain ⟨va, vc, rfl, _⟩ := own_slice hrow
    rw [List.attach_map_subtype_val] at hrow
    have cz := bL1.cell
    have KV := fun u => values28 (.slice va (objs (H.sp.attach.map Subtype.val)).length vc) ⟨_, _, _, rfl⟩ u
    rw [List.attach_map_subtype_val] at KV cz
    have Hrow := hid hrow
    have HB1 := hid hB1
    have HVn := hid hvn
    have HK := hid hK
    clear bL1 hrow hvn hB1 hK
    generalize hln : (objs H.sp).length = ln at *
    have HLn := hid hln.symm
    clear hln
    gi_wp2_with (first | (refine ⟨trivial, ?_⟩; gi_at_call 53; refine (callsIn_wide.2 (KV _)).mono ?_; rintro e w' ⟨rfl, rfl⟩) | fail "no arm")
    have hK2 := (KeepsOthers.alloc W (.cells #[.slice va ln vc] 28)).same _ _ HK.out rfl
    refine ⟨by simp, .inl ⟨_, _, rfl, run_takeDeferred hK2, ?_⟩⟩
    have hP := grownBy_putObj' (W.alloc (.cells #[.slice va ln vc] 28)) D (.deferred none)
    have hx1 := Ext.alloc [] W (.cells #[.slice va ln vc] 28)
    have hx2 := Ext.grown (S := [D]) hP (by simp)
    have hx0 : Ext [] w W := by have h := HB1.out; rw [HZ.out] at h; exact below_ext h
    have hDW := lt_of_heap HK.out
    have hz2 := HZ.out
    refine ⟨_, results_tmp rfl _ _ _, W.heap.size, .slice va ln vc, rfl, ?_, ?_, ?_, ?_, ?_⟩
    · exact hx2.keep (heap_alloc_new W _) (by simp; omega)
    · have h1 := own_keep0 Hrow.out hx1
      unfold Obl
      rw [← HLn.out]
      refine own_base (own_keep h1 hx2 (fun b hb hv => ?_)) (Nat.zero_le _)
      simp only [List.mem_singleton] at hb
      subst hb
      rcases h1.2 with ⟨q, _⟩ | ⟨g, cap, cur, q, _, hg, _⟩
      · rw [q] at hv; simp [Value.ownBlock] at hv
      · rw [q] at hv; simp [Value.ownBlock] at hv; subst hv; rw [hK2] at hg; simp at hg
    · have := hx0.size; exact this
    · intro g hg
      have := HVn.out g (by cases va <;> exact hg)
      omega
    · exact (hx0.trans hx1).on hx2 (by simp; omega)
  case stop =>
    rintro D c pre W _ _ h _
    exact h.elim

end Go.Proofs.YtlajjcboahflbaaDoor
