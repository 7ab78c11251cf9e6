/-
  Lists of objects, spans and runs held against each other, where they are the same; no statement is proved here.
-/
import Derived.Test.YtlajjcboahflbaaDoorWholeA
import Derived.Laws.StructEq
namespace Go.Proofs.YtlajjcboahflbaaDoor
open Go.RowKit Go.Shelf

theorem neq_of_eql {t : TypeId} {a b : Array Value} {r : Bool} {w : World} (h : (binOp .eql t (.agg a) (.agg b)).run Tryd.prog w = .ok (.bool r) w) : (binOp .neq t (.agg a) (.agg b)).run Tryd.prog w = .ok (.bool (!r)) w := by
  rw [run_eql_struct] at h
  rw [run_neq_struct]
  cases hq : (Op.equalIn 10000 t (.agg a) (.agg b)).run Tryd.prog w with
  | ok b w' =>
    rw [hq] at h
    simp only [Result.andThen_ok, Result.ok.injEq, Value.bool.injEq] at h ⊢
    obtain ⟨rfl, rfl⟩ := h
    exact ⟨rfl, rfl⟩
  | halt a b => rw [hq] at h; simp [Result.andThen] at h
theorem eql_rn (a b : Int) (c : Bool) (w : World) : (binOp .eql 38 (.agg #[.int .i64 a, .int .i64 b, .bool c]) (.agg #[.int .i64 a, .int .i64 b, .bool c])).run Tryd.prog w = .ok (.bool true) w := by
  have u3 := Tryd.underlying3
  have a3 := Tryd.isAgg3
  have z3 := Tryd.sizeOf3
  have u4 := Tryd.underlying4
  have a4 := Tryd.isAgg4
  have z4 := Tryd.sizeOf4
  have hS : Tryd.prog.underlying 38 = some (.struct (Tryd.prog.fieldsOf 38)) := by kernel_rfl
  have hp : Tryd.prog.stoodInHeld 38 = false := by kernel_rfl
  rw [run_eql_struct, show (10000 : Nat) = 9999 + 1 from rfl, run_equalIn_agg w 9999 38 _ _ hS hp]
  simp only [Program.fieldsOf, Tryd.underlying38]
  go_simp
theorem eql_sp (a b c d e : Int) (w : World) : (binOp .eql 36 (.agg #[.int .i64 a, .int .i64 b, .int .i64 c, .int .i64 d, .int .i64 e]) (.agg #[.int .i64 a, .int .i64 b, .int .i64 c, .int .i64 d, .int .i64 e])).run Tryd.prog w = .ok (.bool true) w := by
  have u3 := Tryd.underlying3
  have a3 := Tryd.isAgg3
  have z3 := Tryd.sizeOf3
  have hS : Tryd.prog.underlying 36 = some (.struct (Tryd.prog.fieldsOf 36)) := by kernel_rfl
  have hp : Tryd.prog.stoodInHeld 36 = false := by kernel_rfl
  rw [run_eql_struct, show (10000 : Nat) = 9999 + 1 from rfl, run_equalIn_agg w 9999 36 _ _ hS hp]
  simp only [Program.fieldsOf, Tryd.underlying36]
  go_simp

set_option maxRecDepth 100000 in
set_option maxHeartbeats 4000000 in
theorem sameRuns_t (v v' : Value) (L : List Rn) (w : World) (hA : Lst w v L) (hB : Lst w v' L) (hlen : L.length ≤ 1000000) : Calls Tryd.prog 49 #[v, v'] w (SayPost w (.bool true)) := by
  obtain ⟨a, c, rfl, _⟩ := hA.slice
  obtain ⟨a', c', rfl, _⟩ := hB.slice
  have HA := hid hA
  have HB := hid hB
  clear hA hB
  generalize hn : L.length = n at *
  have HN := hid hn
  clear hn
  go_enter Tryd.func49, Tryd.ntmps49
  go_wp2_with fail
  go_loopw [5] (fun q wr => ∃ k : Nat, q = .int .i64 k ∧ k ≤ n ∧ Ext [] w wr) (fun q _ => (n - (intOf q)).toNat)
  case atStart => exact ⟨0, rfl, Nat.zero_le _, Ext.refl _ _⟩
  case round =>
    obtain ⟨k, rfl, hk, hE⟩ := hrel
    have HE := hid hE
    clear hE
    by_cases hlt : k < n
    · obtain ⟨g, c1, hv, c0, c1', c2⟩ := lst_at (HA.out.keep0 HE.out) (k := k) (by rw [HN.out]; exact hlt)
      obtain ⟨g', c3, hv2, d0, d1, d2⟩ := lst_at (HB.out.keep0 HE.out) (k := k) (by rw [HN.out]; exact hlt)
      simp only [Value.slice.injEq] at hv hv2
      obtain ⟨rfl, _, rfl⟩ := hv
      obtain ⟨rfl, _, rfl⟩ := hv2
      have hq := fun w => neq_of_eql (eql_rn (L[k]'(by rw [HN.out]; exact hlt)).s (L[k]'(by rw [HN.out]; exact hlt)).n (L[k]'(by rw [HN.out]; exact hlt)).u w)
      generalize (L[k]'(by rw [HN.out]; exact hlt)) = x at *
      simp only [Bool.not_true] at hq
      go_wp2_with fail
      go_quiet (fail)
      go_wp2_with fail
      go_roundw
      case rel => exact ⟨k + 1, by go_num, by omega, HE.out.trans (Ext.drewN [] _ _)⟩
      case measure => simp [intOf]; omega
    · obtain rfl : k = n := by omega
      go_wp2_with fail
      go_ret
      exact ⟨rfl, HE.out⟩
theorem sameRuns2_t (v v' : Value) (L : List Rn) (w : World) (hA : Lst w v L) (hB : Lst w v' L) (hlen : L.length ≤ 1000000) : Calls Tryd.prog 22 #[v, v'] w (SayPost w (.bool true)) := by
  have K := sameRuns_t v v' L w hA hB hlen
  clear hA hB
  go_enter Tryd.func22, Tryd.ntmps22
  go_wp2_with fail
  refine K.mono ?_
  clear K
  rintro e w1 ⟨rfl, hE⟩
  have HE := hid hE
  clear hE
  go_wp2
  go_ret
  exact ⟨rfl, HE.out⟩

set_option maxRecDepth 100000 in
set_option maxHeartbeats 4000000 in
theorem sameSpans_t (v v' : Value) (L : List Spn) (w : World) (hA : Spl w v L) (hB : Spl w v' L) (hlen : L.length ≤ 1000000) : Calls Tryd.prog 21 #[v, v'] w (SayPost w (.bool true)) := by
  obtain ⟨a, c, rfl, _⟩ := own_slice hA
  obtain ⟨a', c', rfl, _⟩ := own_slice hB
  have HA := hid hA
  have HB := hid hB
  clear hA hB
  generalize hn : L.length = n at *
  have HN := hid hn
  clear hn
  go_enter Tryd.func21, Tryd.ntmps21
  go_wp2_with fail
  go_loopw [5] (fun q wr => ∃ k : Nat, q = .int .i64 k ∧ k ≤ n ∧ Ext [] w wr) (fun q _ => (n - (intOf q)).toNat)
  case atStart => exact ⟨0, rfl, Nat.zero_le _, Ext.refl _ _⟩
  case round =>
    obtain ⟨k, rfl, hk, hE⟩ := hrel
    have HE := hid hE
    clear hE
    by_cases hlt : k < n
    · obtain ⟨g, c1, hv, c0, c1', c2, c4, c5⟩ := spl_at (own_keep0 HA.out HE.out) (k := k) (by rw [HN.out]; exact hlt)
      obtain ⟨g', c3, hv2, d0, d1, d2, d4, d5⟩ := spl_at (own_keep0 HB.out HE.out) (k := k) (by rw [HN.out]; exact hlt)
      simp only [Value.slice.injEq] at hv hv2
      obtain ⟨rfl, _, rfl⟩ := hv
      obtain ⟨rfl, _, rfl⟩ := hv2
      have hq := fun w => neq_of_eql (eql_sp (L[k]'(by rw [HN.out]; exact hlt)).st (L[k]'(by rw [HN.out]; exact hlt)).n (L[k]'(by rw [HN.out]; exact hlt)).rm (L[k]'(by rw [HN.out]; exact hlt)).S.length (us (L[k]'(by rw [HN.out]; exact hlt)).S) w)
      generalize (L[k]'(by rw [HN.out]; exact hlt)) = x at *
      generalize (x.st : Int) = x0 at *
      generalize (x.n : Int) = x1 at *
      generalize (x.rm : Int) = x2 at *
      generalize (x.S.length : Int) = x3 at *
      generalize ((us x.S : Nat) : Int) = x4 at *
      simp only [Bool.not_true] at hq
      go_wp2_with fail
      go_quiet (fail)
      go_wp2_with fail
      go_roundw
      case rel => exact ⟨k + 1, by go_num, by omega, HE.out.trans (Ext.drewN [] _ _)⟩
      case measure => simp [intOf]; omega
    · obtain rfl : k = n := by omega
      go_wp2_with fail
      go_ret
      exact ⟨rfl, HE.out⟩

theorem sameInts_nil (w : World) : Calls Tryd.prog 75 #[.slice none 0 0, .slice none 0 0] w fun e w' => e = .returned (.bool true) ∧ w' = w := by
  go_enter Tryd.func75, Tryd.ntmps75
  go_wp2_with fail
  go_loopw [5] (fun q wr => q = .int .i64 0 ∧ wr = w) (fun _ _ => 0)
  case atStart => exact ⟨rfl, rfl⟩
  case round =>
    obtain ⟨rfl, rfl⟩ := hrel
    go_wp2_with fail
    go_ret
    exact ⟨rfl, rfl⟩
theorem sameObject_t (a s t : Int) (w : World) : Calls Tryd.prog 48 #[.agg #[.int .i64 a, .int .i64 s, .int .i64 t, .slice none 0 0], .agg #[.int .i64 a, .int .i64 s, .int .i64 t, .slice none 0 0]] w (SayPost w (.bool true)) := by
  have HE := hid ((Ext.alloc [] w (.cells #[.int .i64 a, .int .i64 s, .int .i64 t, .slice none 0 0] 34)).trans (Ext.alloc [] _ (.cells #[.int .i64 a, .int .i64 s, .int .i64 t, .slice none 0 0] 34)))
  go_enter Tryd.func48, Tryd.ntmps48
  go_wp2_with fail
  refine (sameInts_nil _).mono ?_
  rintro e w1 ⟨rfl, rfl⟩
  go_wp2
  go_ret
  exact ⟨rfl, HE.out⟩

set_option maxRecDepth 100000 in
set_option maxHeartbeats 4000000 in
theorem sameObjs_t (v v' : Value) (L : List Ob) (w : World) (hA : Obl w v L) (hB : Obl w v' L) (hlen : L.length ≤ 1000000) : Calls Tryd.prog 20 #[v, v'] w (SayPost w (.bool true)) := by
  obtain ⟨a, c, rfl, _⟩ := own_slice hA
  obtain ⟨a', c', rfl, _⟩ := own_slice hB
  have HA := hid hA
  have HB := hid hB
  clear hA hB
  generalize hn : L.length = n at *
  have HN := hid hn
  clear hn
  go_enter Tryd.func20, Tryd.ntmps20
  go_wp2_with fail
  go_loopw [5] (fun q wr => ∃ k : Nat, q = .int .i64 k ∧ k ≤ n ∧ Ext [] w wr) (fun q _ => (n - (intOf q)).toNat)
  case atStart => exact ⟨0, rfl, Nat.zero_le _, Ext.refl _ _⟩
  case round =>
    obtain ⟨k, rfl, hk, hE⟩ := hrel
    have HE := hid hE
    clear hE
    by_cases hlt : k < n
    · obtain ⟨g, c1, hv, c0, c1', c2, c4⟩ := obl_at (own_keep0 HA.out HE.out) (k := k) (by rw [HN.out]; exact hlt)
      obtain ⟨g', c3, hv2, d0, d1, d2, d4⟩ := obl_at (own_keep0 HB.out HE.out) (k := k) (by rw [HN.out]; exact hlt)
      simp only [Value.slice.injEq] at hv hv2
      obtain ⟨rfl, hy1, rfl⟩ := hv
      obtain ⟨rfl, hy2, rfl⟩ := hv2
      clear hy1 hy2
      generalize (L[k]'(by rw [HN.out]; exact hlt)) = x at *
      obtain ⟨x0, x1, x2⟩ := x
      simp only at c0 c1' c2 d0 d1 d2
      have K := fun u => sameObject_t x0 x1 x2 u
      go_wp2_with fail
      go_region_held3 (fun w' => w'.cell? ⟨g, k * 4, none⟩ = some (.int .i64 x0) ∧ w'.cell? ⟨g, k * 4 + 1, none⟩ = some (.int .i64 x1) ∧ w'.cell? ⟨g, k * 4 + 2, none⟩ = some (.int .i64 x2) ∧ w'.cell? ⟨g, k * 4 + 3, none⟩ = some (.slice none 0 0) ∧ w'.cell? ⟨g', k * 4, none⟩ = some (.int .i64 x0) ∧ w'.cell? ⟨g', k * 4 + 1, none⟩ = some (.int .i64 x1) ∧ w'.cell? ⟨g', k * 4 + 2, none⟩ = some (.int .i64 x2) ∧ w'.cell? ⟨g', k * 4 + 3, none⟩ = some (.slice none 0 0))
        (first | go_keep | exact ⟨((Ext.drew [] _).trans he.out).cell c0 (by simp), ((Ext.drew [] _).trans he.out).cell c1' (by simp), ((Ext.drew [] _).trans he.out).cell c2 (by simp), ((Ext.drew [] _).trans he.out).cell c4 (by simp), ((Ext.drew [] _).trans he.out).cell d0 (by simp), ((Ext.drew [] _).trans he.out).cell d1 (by simp), ((Ext.drew [] _).trans he.out).cell d2 (by simp), ((Ext.drew [] _).trans he.out).cell d4 (by simp)⟩)
        (first | (go_at_call 48; refine (K _).mono ?_; rintro e u ⟨rfl, he⟩; replace he := hid he) | fail "no arm")
      go_wp2_with fail
      go_roundw
      case rel => exact ⟨k + 1, by go_num, by omega, HE.out.trans ((Ext.drew [] _).trans he.out)⟩
      case measure => simp [intOf]; omega
    · obtain rfl : k = n := by omega
      go_wp2_with fail
      go_ret
      exact ⟨rfl, HE.out⟩

end Go.Proofs.YtlajjcboahflbaaDoor
