/-
  Runs and lists of runs held against each other; no statement is proved here.
-/
import Derived.Test.YtkdgekdacinlhaaGrown
import Derived.Laws.StructEq
namespace Go.Proofs.Ytkdgekdacinlhaa
open Go.RowKit

theorem eql_run (x y : Rn) (w : World) : (binOp .eql 42 (.agg #[.int .i64 x.s, .int .i64 x.n, .bool x.u]) (.agg #[.int .i64 y.s, .int .i64 y.n, .bool y.u])).run Try.prog w = .ok (.bool (decide (x = y))) w := by
  have u3 := Try.underlying3
  have a3 := Try.isAgg3
  have z3 := Try.sizeOf3
  have u4 := Try.underlying4
  have a4 := Try.isAgg4
  have z4 := Try.sizeOf4
  have hS : Try.prog.underlying 42 = some (.struct (Try.prog.fieldsOf 42)) := by kernel_rfl
  have hp : Try.prog.stoodInHeld 42 = false := by kernel_rfl
  rw [run_eql_struct, show (10000 : Nat) = 9999 + 1 from rfl, run_equalIn_agg w 9999 42 _ _ hS hp]
  simp only [Program.fieldsOf, Try.underlying42]
  go_simp
  obtain ⟨xs, xn, xu⟩ := x
  obtain ⟨ys, yn, yu⟩ := y
  by_cases h1 : xs = ys <;> by_cases h2 : xn = yn <;> by_cases h3 : xu = yu <;> simp [h1, h2, h3] <;> omega
theorem neq_run (x y : Rn) (w : World) : (binOp .neq 42 (.agg #[.int .i64 x.s, .int .i64 x.n, .bool x.u]) (.agg #[.int .i64 y.s, .int .i64 y.n, .bool y.u])).run Try.prog w = .ok (.bool (!decide (x = y))) w := by
  have h := eql_run x y w
  rw [run_eql_struct] at h
  rw [run_neq_struct]
  cases hq : (Op.equalIn 10000 42 (.agg #[.int .i64 x.s, .int .i64 x.n, .bool x.u]) (.agg #[.int .i64 y.s, .int .i64 y.n, .bool y.u])).run Try.prog w with
  | ok b w' =>
    rw [hq] at h
    simp only [Result.andThen_ok, Result.ok.injEq, Value.bool.injEq] at h ⊢
    obtain ⟨rfl, rfl⟩ := h
    exact ⟨rfl, rfl⟩
  | halt a b => rw [hq] at h; simp [Result.andThen] at h

theorem take_ext {A B : List Rn} {k : Nat} (ha : k < A.length) (hb : k < B.length) (h : A.take k = B.take k) (h2 : rnAt A k = rnAt B k) : A.take (k + 1) = B.take (k + 1) := by
  rw [List.take_add_one, List.take_add_one, h, rnAt_get ha, rnAt_get hb, h2]

set_option maxRecDepth 100000 in
set_option maxHeartbeats 4000000 in
theorem same_any (v v' : Value) (A B : List Rn) (w : World) (hA : Lst w v A) (hB : Lst w v' B) (hlen : A.length ≤ 100000) :
    Calls Try.prog 14 #[v, v'] w (SayPost w (.bool (decide (A = B)))) := by
  obtain ⟨a, c, rfl, _⟩ := hA.slice
  obtain ⟨a', c', rfl, _⟩ := hB.slice
  by_cases hl : A.length = B.length
  · have HA := hid hA
    have HB := hid hB
    clear hA hB
    have HL := hid hl
    generalize hn : A.length = n at *
    have HN := hid hn
    rw [← hl]
    clear hn hl
    go_enter Try.func14, Try.ntmps14
    go_wp2_with fail
    go_loopw [5] (fun q wr => ∃ k : Nat, q = .int .i64 k ∧ k ≤ n ∧ A.take k = B.take k ∧ Ext [] w wr) (fun q _ => (n - (intOf q)).toNat)
    case atStart => exact ⟨0, rfl, Nat.zero_le _, rfl, Ext.refl _ _⟩
    case round =>
      obtain ⟨k, rfl, hk, hT, hE⟩ := hrel
      have HT := hid hT
      have HE := hid hE
      clear hT hE
      by_cases hlt : k < n
      · obtain ⟨g, c1, hv, _, _, _, hcs⟩ := (HA.out.keep0 HE.out).at_ (by rw [HN.out]; omega)
        obtain ⟨g', c2, hv2, _, _, _, hcs2⟩ := (HB.out.keep0 HE.out).at_ (by rw [← HL.out]; omega)
        simp only [Value.slice.injEq] at hv hv2
        obtain ⟨rfl, _, rfl⟩ := hv
        obtain ⟨rfl, _, rfl⟩ := hv2
        obtain ⟨c0, c1, c2⟩ := hcs k (by rw [HN.out]; exact hlt)
        obtain ⟨d0, d1, d2⟩ := hcs2 k (by rw [← HL.out]; exact hlt)
        clear hcs hcs2
        have hka : k < A.length := by rw [HN.out]; exact hlt
        have hkb : k < B.length := by rw [← HL.out]; exact hlt
        have HX : Hid (∀ h : rnAt A k = rnAt B k, A.take (k + 1) = B.take (k + 1)) := fun h => take_ext hka hkb HT.out h
        have HY : Hid (rnAt A k ≠ rnAt B k → decide (A = B) = false) := fun h => by
          refine decide_eq_false (fun e => h ?_)
          rw [e]
        clear hka hkb
        generalize rnAt A k = x at *
        generalize rnAt B k = y at *
        have hq := fun w => neq_run x y w
        by_cases hxy : x = y
        · have hd : decide (x = y) = true := by simp [hxy]
          rw [hd] at hq
          have HXY := hid hxy
          clear hxy hd
          simp only [Bool.not_true] at hq
          go_wp2_with fail
          go_quiet (fail)
          go_wp2_with fail
          go_roundw
          case rel => exact ⟨k + 1, by go_num, by omega, HX.out HXY.out, HE.out.trans (Ext.drewN [] _ _)⟩
          case measure => simp [intOf]; omega
        · have hd : decide (x = y) = false := by simp [hxy]
          rw [hd] at hq
          have HF := hid (HY.out hxy)
          clear hxy hd
          simp only [Bool.not_false] at hq
          go_wp2_with fail
          go_quiet (fail)
          go_wp2_with fail
          go_ret
          exact ⟨(congrArg (fun b => Ending.returned (Value.bool b)) HF.out).symm, HE.out.trans (Ext.drewN [] _ _)⟩
      · obtain rfl : k = n := by omega
        have HF : Hid (decide (A = B) = true) := by
          show _ = _
          have h := HT.out
          rw [List.take_of_length_le (by rw [HN.out]; omega), List.take_of_length_le (by rw [← HL.out]; omega)] at h
          simp [h]
        go_wp2_with fail
        go_ret
        exact ⟨(congrArg (fun b => Ending.returned (Value.bool b)) HF.out).symm, HE.out⟩
  · have HF : Hid (decide (A = B) = false) := decide_eq_false (fun e => hl (by rw [e]))
    have h1 : ((A.length : Int) == (B.length : Int)) = false := by simp; omega
    have h2 : ((A.length : Int) != (B.length : Int)) = true := by simp; omega
    clear hA hB
    generalize A.length = n at *
    generalize B.length = m at *
    go_enter Try.func14, Try.ntmps14
    go_wp2_with fail
    go_ret
    exact ⟨(congrArg (fun b => Ending.returned (Value.bool b)) HF.out).symm, Ext.refl _ _⟩

end Go.Proofs.Ytkdgekdacinlhaa
