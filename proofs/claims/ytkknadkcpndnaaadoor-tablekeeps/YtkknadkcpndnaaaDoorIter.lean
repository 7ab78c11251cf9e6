/-
  The number of the lowest bit, and the iterator over the bits of a mask; no statement is proved here.
-/
import Derived.Test.YtkknadkcpndnaaaDoorGrp
import Derived.Test.YtkknadkcpndnaaaDoorBitsM
namespace Go.Proofs.YtkknadkcpndnaaaDoor
open Go.RowKit Go.Shelf

attribute [local go_sem] Oper.semAt_some

/-- The library's table of products. -/
def Tb (w : World) : Prop := ∀ j, j < 64 → w.cell? ⟨0, j, none⟩ = some (.int .u8 (Lib.deBruijn64tab.getD j 0))
/-- The block of the table stays. -/
def Kt (A B : World) : Prop := ∀ o, A.heap[0]? = some o → B.heap[0]? = some o
theorem Kt.refl (A : World) : Kt A A := fun _ h => h
theorem Kt.trans {A B C : World} (h : Kt A B) (k : Kt B C) : Kt A C := fun o ho => k o (h o ho)
theorem Tb.lt {w : World} (h : Tb w) : 0 < w.heap.size := block_lt_of_cell (h 0 (by omega))
theorem Kt.tb {A B : World} (h : Kt A B) (t : Tb A) : Tb B := fun j hj => by
  rw [← t j hj]
  refine World.cell?_of_block ?_
  obtain ⟨o, ho⟩ : ∃ o, A.heap[0]? = some o := ⟨_, Array.getElem?_eq_getElem t.lt⟩
  exact (h o ho).trans ho.symm
theorem Kt.of_ext {S : List Nat} {A B : World} (x : Ext S A B) (h : 0 ∉ S) : Kt A B := fun _ ho => x.keep ho h
theorem Tb.keep0 {A B : World} (t : Tb A) (x : Ext [] A B) : Tb B := (Kt.of_ext x (by simp)).tb t
theorem Kt.of_below {n : Nat} {A B : World} (h : Below n A B) (h0 : 0 < n) : Kt A B := fun _ ho => (h.block 0 h0).trans ho

theorem tz_key (x a : Nat) (hx : x < 18446744073709551616) (hx0 : x ≠ 0) (hlow : x &&& (18446744073709551616 - x) = a) :
    IntKind.u64.wrap (bits BinOp.and IntKind.u64 (x : Int) (IntKind.u64.wrap (-(x : Int))) * 285870213051353865) / 288230376151711744 = ((a * 285870213051353865 % 18446744073709551616 / 288230376151711744 : Nat) : Int) := by
  have e1 : IntKind.u64.wrap (-(x : Int)) = ((18446744073709551616 - x : Nat) : Int) := by rw [IntKind.wrap_u64]; omega
  rw [e1, bits_and_u64_nat x _ hx (by omega), hlow, IntKind.wrap_u64]
  omega

set_option maxHeartbeats 1000000 in
theorem tz_core (x k idx : Nat) (w : World) (hx0 : ((x : Int) == 0) = false)
    (key : IntKind.u64.wrap (bits BinOp.and IntKind.u64 (x : Int) (IntKind.u64.wrap (-(x : Int))) * 285870213051353865) / 288230376151711744 = (idx : Int))
    (hi : idx < 64) (hk : k < 64) (hcell : w.cell? ⟨0, idx, none⟩ = some (.int .u8 k)) :
    Calls Tryd.prog 89 #[.int .u64 x] w fun e w' => e = .returned (.int .i64 k) ∧ w' = w := by
  go_enter Tryd.func89, Tryd.ntmps89
  go_wp2_with (simp only [key])
  go_ret
  exact ⟨rfl, rfl⟩

theorem tz_any (x : Nat) (hx : x < 18446744073709551616) (hx0 : x ≠ 0) (w : World) (hT : Tb w) :
    Calls Tryd.prog 89 #[.int .u64 x] w fun e w' => e = .returned (.int .i64 (ct x)) ∧ w' = w := by
  obtain ⟨hlow, hk⟩ := Lib.lowest_bit 64 x hx0 hx
  obtain ⟨hi, htab⟩ := Lib.deBruijn64_at _ hk
  have hcell := hT _ hi
  rw [htab] at hcell
  exact tz_core x _ _ w (by simp; omega) (tz_key x _ hx hx0 hlow) hi hk hcell

theorem dr_int {x : Nat} (hx : x < 18446744073709551616) (hx0 : x ≠ 0) : bits BinOp.and IntKind.u64 (x : Int) ((x : Int) - 1) = ((dr x : Nat) : Int) := by
  have e1 : (x : Int) - 1 = ((x - 1 : Nat) : Int) := by omega
  rw [e1, bits_and_u64_nat x _ hx (by omega)]
  rfl

set_option maxRecDepth 100000 in
set_option maxHeartbeats 2000000 in
/-- The iterator's body, for every loop body that leaves the library's table. -/
theorem each1_in (n : Nat) (hn : 2 ≤ n) (l Bn : Nat) (m : Nat) (hm : m < 18446744073709551616) (J Jx : List Nat → World → Prop)
    (hY : ∀ pre x W, J pre W → pre ++ [x] <+: bsF m → YieldAt Fence.wide (n - 1) Tryd.prog l #[.int .i64 (x : Nat)] W fun e W' =>
      (e = .returned (.bool true) ∧ J (pre ++ [x]) W' ∧ Kt W W') ∨ (e = .returned (.bool false) ∧ Jx (pre ++ [x]) W'))
    (W : World) (hBn : Boxed W Bn 23 (.int .u64 m)) (hT : Tb W) (h0 : J [] W) :
    CallsIn Fence.wide n Tryd.prog 88 #[.func (.yield l) #[] #[], .pointer (some ⟨Bn, 0, none⟩)] W fun e W' => (∃ v, e = .returned v) ∧
      ((∃ ys, ys = bsF m ∧ J ys W') ∨ (∃ pre, pre <+: bsF m ∧ Jx pre W')) := by
  have hc := hBn.cell
  have hbl := hBn.lt
  refine callsIn_of_wp Tryd.func88 rfl trivial ?_ rfl
  simp only [Tryd.ntmps88, List.size_toArray, List.length_cons, List.length_nil, Nat.reduceAdd, Nat.reduceSub, Array.replicate_succ, Array.replicate_zero, List.push_toArray, List.append_toArray, List.nil_append, List.cons_append]
  have HT := hid hT
  clear hT hBn
  gi_wp2
  clear hc hbl
  gi_loopw [3] (fun q wr => ∃ (x : Nat) (pre : List Nat), q = .int .u64 x ∧ x < 18446744073709551616 ∧ pre ++ bsF x = bsF m ∧ Tb wr ∧ J pre wr) (fun q _ => (intOf q).toNat)
  case atStart => exact ⟨m, [], rfl, hm, rfl, HT.out, h0⟩
  case round =>
    clear HT h0
    obtain ⟨x, pre, rfl, hx, hpre, hT, hJ⟩ := hrel
    have HT := hid hT
    have HP := hid hpre
    clear hT hpre
    by_cases hx0 : x = 0
    · subst hx0
      gi_wp2
      go_end0
      exact ⟨⟨_, rfl⟩, .inl ⟨pre, by rw [← HP.out, bsF_zero, List.append_nil], hJ⟩⟩
    · have hstep := bsF_step hx0 hx
      have K := tz_any x hx hx0 wr HT.out
      have hd := dr_int hx hx0
      have hne : ((x : Int) != 0) = true := by simpa using hx0
      have HD := hid (dr_lt hx0)
      have HP2 : Hid ((pre ++ [ct x]) ++ bsF (dr x) = bsF m) := by show _ = _; rw [← HP.out, hstep]; simp
      have hlen : pre ++ [ct x] <+: bsF m := ⟨_, HP2.out⟩
      obtain ⟨fn, tmps, assign, body, hy, hR⟩ := hY pre (ct x) _ hJ hlen
      have hdl : dr x < 18446744073709551616 := Nat.lt_trans HD.out hx
      clear HP hstep hJ hlen
      generalize hcx : ct x = k at *
      clear hcx
      gi_wp2_with fail
      refine ⟨trivial, fun _ => by omega, ?_⟩
      refine (callsIn_wide.2 K).mono ?_
      rintro _ _ ⟨rfl, rfl⟩
      clear K
      gi_wp2
      refine ⟨fun _ => by omega, hR.mono ?_⟩
      rintro e W3 (⟨rfl, hJ3, hk3⟩ | ⟨rfl, hJx3⟩)
      · have HT3 := hid (hk3.tb HT.out)
        clear hR hy hk3
        gi_wp2
        go_roundw
        case rel => exact ⟨dr x, pre ++ [k], rfl, hdl, HP2.out, HT3.out, hJ3⟩
        case measure => simp [intOf]; exact HD.out
      · clear hR hy
        gi_wp2
        refine bodyPost_ret (results_none rfl _ _ _) rfl ?_
        exact ⟨⟨_, rfl⟩, .inr ⟨_, by rw [← HP2.out]; exact List.prefix_append _ _, hJx3⟩⟩
/-- The iterator's contract, for a mask of eight bits. -/
theorem bits_stops (n : Nat) (hn : 2 ≤ n) (Bn m : Nat) (hm : m < 256) (w : World) (hB : Boxed w Bn 23 (.int .u64 m)) (hT : Tb w) :
    SeqStopsK Fence.wide n Tryd.prog 88 #[.pointer (some ⟨Bn, 0, none⟩)] (fun x : {x : Nat // x < 8} => #[Value.int .i64 (x.val : Nat)]) Kt (fun ys => ys.map Subtype.val = bsF m) (fun pre => pre.map Subtype.val <+: bsF m) (bsF m).length w := by
  intro l J Jx W hW _ _ hY h0
  refine (each1_in n hn l Bn m (by omega) (fun p W => ∃ q, q.map Subtype.val = p ∧ J q W) (fun p W => ∃ q, q.map Subtype.val = p ∧ Jx q W) ?_ W ((below_ext hW).keep hB (by simp)) (hT.keep0 (below_ext hW)) ⟨[], rfl, h0⟩).mono ?_
  · rintro pre x W ⟨q, rfl, hj⟩ hp
    have hx : x < 8 := by
      have h1 := (bsF_mem.1 (hp.subset (List.mem_append_right _ (List.mem_singleton.2 rfl)) : x ∈ bsF m)).2
      refine Nat.lt_of_not_le fun h8 => ?_
      rw [Nat.testBit_lt_two_pow (Nat.lt_of_lt_of_le hm (show 2 ^ 8 ≤ 2 ^ x from Nat.pow_le_pow_right (by omega) h8))] at h1
      cases h1
    have hl : q.length < (bsF m).length := by
      have := hp.length_le
      simp at this
      omega
    obtain ⟨fn, tmps, assign, body, hy, hR⟩ := hY q ⟨x, hx⟩ W hj hl
    refine ⟨fn, tmps, assign, body, hy, hR.mono ?_⟩
    rintro e W' (⟨rfl, h1, h2⟩ | ⟨rfl, h1⟩)
    · exact .inl ⟨rfl, ⟨q ++ [⟨x, hx⟩], by simp, h1⟩, h2⟩
    · exact .inr ⟨rfl, ⟨q ++ [⟨x, hx⟩], by simp, h1⟩⟩
  · rintro e W' ⟨hv, (⟨ys, h1, q, h2, h3⟩ | ⟨pre, h1, q, h2, h3⟩)⟩
    · exact ⟨hv, .inl ⟨q, h2.trans h1, h3⟩⟩
    · exact ⟨hv, .inr ⟨q, by show q.map _ <+: _; rw [h2]; exact h1, h3⟩⟩
theorem ktK_b {w : World} (h1 : 0 < w.heap.size) (W : World) (l : Nat) (o o' : Obj) (hl : w.heap.size ≤ l) (_ : W.heap[l]? = some o) (_ : o.isCells = false) (_ : o.isWalk = false) : Kt W (W.putObj l o') :=
  fun _ ho => (World.putObj_heap_other (by omega)).trans ho
theorem ktK_t {A B C : World} (h : Kt A B) (k : Kt B C) : Kt A C := h.trans k

/-- The iterator's value. -/
def itv (Bn : Nat) : Value := .func (.func 88) #[] #[.pointer (some ⟨Bn, 0, none⟩)]

theorem bits_any (m : Nat) (w : World) : Calls Tryd.prog 71 #[.int .u64 m] w fun e w' => e = .returned (itv w.heap.size) ∧ w' = w.alloc (.cells #[.int .u64 m] 23) := by
  go_enter Tryd.func71, Tryd.ntmps71
  go_wp2
  go_ret
  exact ⟨rfl, rfl⟩
end Go.Proofs.YtkknadkcpndnaaaDoor
