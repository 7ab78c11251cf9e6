/-
  The library's sort, turning round and Repeat at lists of one's own; no statement is proved here.
-/
import Derived.Test.YtbjplfbplkjibaaBase
import Derived.Test.YtbjplfbplkjibaaShelf
import Derived.Deep.RegionLaw
import Derived.Deep.LoopGhost
namespace Go.Proofs.Ytbjplfbplkjibaa
open Go.RowKit

/-- copy between slices of elements of k cells, the target a row that is known whole. -/
theorem run_copy_k {P : Program} (w : World) (dT sT ty elem : TypeId) (k g o dLen dCap : Nat) (a : Addr) (sLen sCap m : Nat) (cur : List Value) (t : TypeId) (cs : List Value)
    (hu : P.underlying dT = some (.slice elem)) (hs : (P.info? elem).map (·.size) = some k) (hg : w.heap[g]? = some (.cells cur.toArray t (0, 0))) (hm : Nat.min sLen dLen = m) (hn : cs.length = m * k)
    (hsrc : ∀ j v, cs[j]? = some v → w.cell? (a.add j) = some v) (hfit : o + cs.length ≤ cur.length) (h1 : ∀ v ∈ cs, v.oneCell' = true) :
    (Builtin.copy_ #[dT, sT] ty #[.slice (some ⟨g, o, none⟩) dLen dCap, .slice (some a) sLen sCap]).run P w = .ok (goInt m) (w.setRow g (splice cur o cs).toArray) := by
  have hf := run_firstCells_some (P := P) w k m a sLen sCap cs hn hsrc
  have hst := run_storeCells_at P g o t cs 0 cur.toArray w hg (by simpa using hfit) h1
  cases hq : P.info? elem with
  | none => simp [hq] at hs
  | some i =>
    have hi : i.size = k := by simpa [hq] using hs
    simp only [Nat.add_zero] at hst
    simp [Builtin.copy_, run_underlying hu, Builtin.lenOf, sizeOf, typeInfo, hq, hi, hm, hf, hst, splice]

theorem wpList_copy_run {P : Program} {w w' : World} {ops : Array Oper} {rest : List Oper} {o : Oper} {a : Act} {Q : Exit → Act → World → Prop} (hgd : o.guard = none) (d s : Operand) (t t' : TypeId)
    (ho : o.op = .call { callee := .builtin .copy, args := #[d, s], argTypes := #[t, t'] }) (vd vs v' : Value) (hd : a.eval d = vd) (hs : a.eval s = vs)
    (hr : (Builtin.copy_ #[t, t'] o.type #[vd, vs]).run P w = .ok v' w') (h : wpList P ops Q rest (a.put o.dst v') w') : wpList P ops Q (o :: rest) a w := by
  refine wpList_plain hgd fun K hK => ?_
  unfold Oper.wp execOp
  simp only [ho, resolve, invoke, builtin, Sem.run_bind, Sem.run_pure, Result.andThen_ok, List.map_toArray, List.map_cons, List.map_nil, hd, hs, hr]
  exact hK _ _ h

theorem step_copy_run {P : Program} {ops : Array Oper} {o : Oper} {a : Act} {w w' : World} {K : Act → World → Prop} {Q : Exit → Act → World → Prop} {E : Prop} (hgd : o.guard = none) (d s : Operand) (t t' : TypeId)
    (ho : o.op = .call { callee := .builtin .copy, args := #[d, s], argTypes := #[t, t'] }) (vd vs v' : Value) (hd : a.eval d = vd) (hs : a.eval s = vs)
    (hr : (Builtin.copy_ #[t, t'] o.type #[vd, vs]).run P w = .ok v' w') (h : K (a.put o.dst v') w') :
    if Region.wanted o (yielded ops a.tmps) = true then Oper.wp P o a w K Q else E := by
  rw [if_pos (by simp [Region.wanted, hgd])]
  unfold Oper.wp execOp
  simp only [ho, resolve, invoke, builtin, Sem.run_bind, Sem.run_pure, Result.andThen_ok, List.map_toArray, List.map_cons, List.map_nil, hd, hs, hr]
  exact h


/-! ### Repeat -/

theorem size3 : (Try.prog.info? 3).map (·.size) = some 1 := by kernel_rfl

/-- So many numbers -1, then 0. -/
def fil (n k : Nat) : List Value := List.replicate k (.int .i64 (-1)) ++ List.replicate (n - k) (.int .i64 0)
theorem fil_len (n k : Nat) (h : k ≤ n) : (fil n k).length = n := by simp [fil]; omega
theorem fil_splice (n k m : Nat) (h : k + m ≤ n) : splice (fil n k) k (List.replicate m (.int .i64 (-1))) = fil n (k + m) := by
  simp only [splice, fil, List.length_replicate]
  rw [List.take_append_of_le_length (by simp), List.take_of_length_le (by simp), List.drop_append, List.drop_eq_nil_of_le (by simp)]
  simp only [List.length_replicate, List.nil_append, List.drop_replicate]
  rw [← List.append_assoc, List.replicate_append_replicate]
  congr 2
  omega
theorem fil_full (n : Nat) : fil n n = List.replicate n (.int .i64 (-1)) := by simp [fil]

def RpPost (w : World) (n : Nat) (e : Ending) (w' : World) : Prop :=
  ∃ g, e = .returned (.slice (some ⟨g, 0, none⟩) n n) ∧ w.heap.size ≤ g ∧ w'.heap[g]? = some (.cells (List.replicate n (Value.int .i64 (-1))).toArray 3 (0, 0)) ∧ Ext [] w w'

set_option maxRecDepth 100000 in
set_option maxHeartbeats 2000000 in
theorem repeat_any (b n : Nat) (w : World) (hb : w.cell? ⟨b, 0, none⟩ = some (.int .i64 (-1))) (hn : n ≤ 65536) : Calls Try.prog 30 #[.slice (some ⟨b, 0, none⟩) 1 1, .int .i64 n] w (RpPost w n) := by
  have K := Try.bits_Mul 1 n (by omega) (by omega) w
  rw [show (1 * n / 18446744073709551616 : Nat) = 0 by omega, show (1 * n % 18446744073709551616 : Nat) = n by omega] at K
  obtain ⟨i3, hi3, hz3, hs3, hy3⟩ := info_parts info3
  have hr := run_make (P := Try.prog) w 28 3 i3 _ Try.underlying28 hi3 hz3 .i64 .i64 n n (by omega) (Int.le_refl _) (by rw [hy3]; omega) (by omega)
  rw [hs3] at hr
  simp only [Int.toNat_natCast] at hr
  have hm : madeCells (Value.int .i64 0).cells (n * 1) = (fil n 0).toArray := by
    apply Array.toList_inj.1
    rw [show (Value.int .i64 0).cells = #[.int .i64 0] from rfl, toList_madeCells_one]
    simp [fil]
  rw [hm] at hr
  have hbl : b < w.heap.size := block_lt_of_cell hb
  have hm1 : Nat.min 1 n ≤ 1 := Nat.min_le_left 1 n
  have hm2 : Nat.min 1 n ≤ n := Nat.min_le_right 1 n
  have hE0 := Ext.alloc [] w (.cells (fil n 0).toArray 3)
  have hg0 : (w.alloc (.cells (fil n 0).toArray 3)).heap[w.heap.size]? = some (.cells (fil n 0).toArray 3 (0, 0)) := heap_alloc_new w _
  have hcp := run_copy_k (P := Try.prog) _ 28 28 3 3 1 w.heap.size 0 n n ⟨b, 0, none⟩ 1 1 (Nat.min 1 n) (fil n 0) 3 (List.replicate (Nat.min 1 n) (.int .i64 (-1))) Try.underlying28 size3 hg0 rfl (by simp) (fun j u hu => by
    rw [List.getElem?_replicate] at hu
    split at hu
    · rename_i hj
      obtain rfl : j = 0 := by omega
      cases hu
      rw [Addr.add_lit]
      exact hE0.cell hb (by simp)
    · cases hu) (by rw [fil_len _ _ (by omega), List.length_replicate]; omega) (by simp [Value.oneCell'])
  rw [show splice (fil n 0) 0 (List.replicate (Nat.min 1 n) (Value.int .i64 (-1))) = fil n (Nat.min 1 n) by have := fil_splice n 0 (Nat.min 1 n) (by omega); simpa using this] at hcp
  have HX1 : Hid (Ext [] w ((w.alloc (.cells (fil n 0).toArray 3)).setRow w.heap.size (fil n (Nat.min 1 n)).toArray)) := (Ext.alloc [] _ _).on (Ext.setRow [w.heap.size] _ _ _ (by simp)) (by simp)
  have HG1 : Hid (((w.alloc (.cells (fil n 0).toArray 3)).setRow w.heap.size (fil n (Nat.min 1 n)).toArray).heap[w.heap.size]? = some (.cells (fil n (Nat.min 1 n)).toArray 3 (0, 0))) := by
    show _ = _
    exact setRow_heap _ _ _ _ _ _ hg0
  have HM0 : Hid (n = 0 ∨ Nat.min 1 n = 1) := by
    show _ ∨ _
    by_cases h : n = 0
    · exact .inl h
    · exact .inr (Nat.min_eq_left (by omega))
  generalize Nat.min 1 n = m1 at *
  clear hm hi3 hz3 hs3 hy3 hE0 hg0
  go_enter Try.func30, Try.ntmps30
  go_wp2_with (first | (go_at_call 40; refine met K ?_) | (at_builtin; refine wpList_copy_run rfl _ _ 28 28 rfl _ _ _ rfl rfl hcp ?_))
  generalize hW1 : (w.alloc (.cells (fil n 0).toArray 3)).setRow w.heap.size (fil n m1).toArray = W1 at *
  clear hW1 hcp hr K
  go_loopg [8] (n - m1) (fun q u wr => ∃ k : Nat, u = .int .i64 k ∧ k ≤ n ∧ n - k ≤ q ∧ (n = 0 ∨ 0 < k) ∧ Ext [] w wr ∧ wr.heap[w.heap.size]? = some (.cells (fil n k).toArray 3 (0, 0)))
  case atStart => exact ⟨m1, rfl, hm2, by omega, by have := HM0.out; omega, HX1.out, HG1.out⟩
  case round =>
    clear HX1 HG1 HM0 hm1 hm2
    obtain ⟨k, rfl, hk, hkq, hk0, hE, hg⟩ := hrel
    have HE := hid hE
    have HG := hid hg
    clear hE hg
    by_cases hlt : k < n
    · have hk1 : 0 < k := by omega
      have hmin : Nat.min k (n - k) ≤ n - k := Nat.min_le_right _ _
      have hmin2 : Nat.min k (n - k) ≤ k := Nat.min_le_left _ _
      have HMp : Hid (0 < Nat.min k (n - k)) := by
        show 0 < _
        exact Nat.lt_min.2 ⟨hk1, by omega⟩
      have hgd : wr.drew.heap[w.heap.size]? = some (.cells (fil n k).toArray 3 (0, 0)) := (Ext.drew [] wr).keep HG.out (by simp)
      have hcp := run_copy_k (P := Try.prog) wr.drew 28 28 3 3 1 w.heap.size k (n - k) (n - k) ⟨w.heap.size, 0, none⟩ k n (Nat.min k (n - k)) (fil n k) 3 (List.replicate (Nat.min k (n - k)) (.int .i64 (-1))) Try.underlying28 size3 hgd rfl (by simp) (fun j u hu => by
        rw [List.getElem?_replicate] at hu
        split at hu
        · rename_i hj
          cases hu
          rw [Addr.add_lit, cell_of_row _ _ _ _ _ _ hgd, Nat.zero_add, List.getElem?_toArray, fil, List.getElem?_append_left (by simp; omega), List.getElem?_replicate, if_pos (by omega)]
        · cases hu) (by rw [fil_len _ _ (by omega), List.length_replicate]; omega) (fun u hu => by rw [List.eq_of_mem_replicate hu]; rfl)
      rw [fil_splice n k _ (by omega)] at hcp
      have HG2 : Hid ((wr.drew.setRow w.heap.size (fil n (k + Nat.min k (n - k))).toArray).heap[w.heap.size]? = some (.cells (fil n (k + Nat.min k (n - k))).toArray 3 (0, 0))) := by
        show _ = _
        exact setRow_heap _ _ _ _ _ _ hgd
      have HE2 : Hid (Ext [] w (wr.drew.setRow w.heap.size (fil n (k + Nat.min k (n - k))).toArray)) := (HE.out.trans (Ext.drew [] _)).on (Ext.setRow [w.heap.size] _ _ _ (by simp)) (by simp)
      generalize Nat.min k (n - k) = m at *
      clear hgd
      have hw : IntKind.i64.wrap ((k : Int) + (m : Int)) = ((k + m : Nat) : Int) := by rw [IntKind.wrap_i64]; omega
      go_wp2_with fail
      go_region_law (refine step_copy_run rfl _ _ 28 28 rfl (.slice (some ⟨w.heap.size, k, none⟩) (n - k) (n - k)) (.slice (some ⟨w.heap.size, 0, none⟩) k n) _ (by simp [Act.eval, Act.put]; omega) (by simp [Act.eval, Act.put]) hcp ?_)
      all_goals
        go_wp2_with fail
        go_roundg (n - (k + m))
        case measure => have := HMp.out; omega
        case rel => exact ⟨k + m, by first | rfl | go_num, by omega, by omega, .inr (by omega), HE2.out, HG2.out⟩
    · obtain rfl : k = n := by omega
      go_wp2_with fail
      go_ret
      refine ⟨_, rfl, Nat.le_refl _, ?_, HE.out⟩
      have := HG.out
      rwa [fil_full] at this

end Go.Proofs.Ytbjplfbplkjibaa
