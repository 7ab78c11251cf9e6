/-
  An operation that came in by value, out of its reading; no statement is proved here.
-/
import Derived.Test.YtkknadkcpndnaaaDoorOpen
namespace Go.Proofs.YtkknadkcpndnaaaDoor
open Go.ChangeShapes Go.WideShapes Go.ChangeAt Go.RowKit

set_option maxRecDepth 100000 in
theorem open_par {H : Type} {enc : TypeId × Value → H} {W : World} {base : Nat} {v : Value} {d : DataW H} {ps : List MemPlace} (hval : Value.okWide Tryd.prog W .any base 25 v) (h : DataW.Trod enc Tryd.prog W 0 (fun _ => true) true 25 v d ps) :
    ∃ (ok og : Int) (oh od : Nat), v = .agg #[.int .i64 ok, .int .i64 og, .int .u64 (oh : Nat), .int .u64 (od : Nat)] ∧ oh < 18446744073709551616 ∧ od < 18446744073709551616 := by
  obtain ⟨cs, rfl, hcs⟩ := okWide_struct Tryd.underlying25 hval
  rw [cells25] at hcs
  obtain ⟨fuel, h⟩ := h
  have h' : DataW.trod enc Tryd.prog W 0 (fun _ => true) true fuel 25 cs.toList = some (d, ps) := by simpa [Value.cells] using h
  obtain ⟨L, rfl⟩ : ∃ L : List Value, cs = L.toArray := ⟨cs.toList, by simp⟩
  obtain ⟨v0, v1, v2, v3, rfl⟩ : ∃ v0 v1 v2 v3, L = [v0, v1, v2, v3] := by
    match L, (show L.length = 4 by simpa using hcs) with
    | [v0, v1, v2, v3], _ => exact ⟨v0, v1, v2, v3, rfl⟩
  obtain ⟨xs, k, rfl, _, _, hxl, hf⟩ := DataW.trod_struct Tryd.underlying25 h'
  have f0 : DataW.trod enc Tryd.prog W 0 (fun _ => true) true k 3 (([v0, v1, v2, v3].drop 0).take (Tryd.prog.cellsOf 3)) = xs[0]? := hf 0 _ rfl
  rw [cells3] at f0
  have f1 : DataW.trod enc Tryd.prog W 0 (fun _ => true) true k 3 (([v0, v1, v2, v3].drop 1).take (Tryd.prog.cellsOf 3)) = xs[1]? := hf 1 _ rfl
  rw [cells3] at f1
  have f2 : DataW.trod enc Tryd.prog W 0 (fun _ => true) true k 23 (([v0, v1, v2, v3].drop 2).take (Tryd.prog.cellsOf 23)) = xs[2]? := hf 2 _ rfl
  rw [cells23] at f2
  have f3 : DataW.trod enc Tryd.prog W 0 (fun _ => true) true k 23 (([v0, v1, v2, v3].drop 3).take (Tryd.prog.cellsOf 23)) = xs[3]? := hf 3 _ rfl
  rw [cells23] at f3
  have hxl4 : xs.length = 4 := hxl
  obtain ⟨x0, x1, x2, x3, rfl⟩ : ∃ x0 x1 x2 x3, xs = [x0, x1, x2, x3] := by
    match xs, hxl4 with
    | [x0, x1, x2, x3], _ => exact ⟨x0, x1, x2, x3, rfl⟩
  obtain ⟨K, e0, rfl, _⟩ := DataW.trod_int Tryd.underlying3 f0
  obtain ⟨M, e1, rfl, _⟩ := DataW.trod_int Tryd.underlying3 f1
  obtain ⟨A, e2, rfl, w2⟩ := DataW.trod_int Tryd.underlying23 f2
  obtain ⟨B, e3, rfl, w3⟩ := DataW.trod_int Tryd.underlying23 f3
  obtain rfl : v0 = .int .i64 K := by simpa using e0
  obtain rfl : v1 = .int .i64 M := by simpa using e1
  obtain ⟨nh, rfl, hnh⟩ := u64_nat w2
  obtain ⟨nd, rfl, hnd⟩ := u64_nat w3
  obtain rfl : v2 = .int .u64 (nh : Nat) := by simpa using e2
  obtain rfl : v3 = .int .u64 (nd : Nat) := by simpa using e3
  exact ⟨K, M, nh, nd, rfl, hnh, hnd⟩
end Go.Proofs.YtkknadkcpndnaaaDoor
