/-
  Open, RfR: joined by program; no statement is proved here.
-/
import Derived.Test.YtkknadkcpndnaaaDoorZP
import Derived.Test.YtkknadkcpndnaaaDoorTie
import Derived.OpenShut
import Derived.ShutString
import Derived.ChangeOld
import Derived.SizedLaws
import Derived.Lib.LaidU8
import Derived.Lay
import Derived.MakeChecks
import Derived.Handed
/-
  What a walk is told of the library's own table and of a script that came in; no statement is proved here.
-/
namespace Go.Proofs.YtkknadkcpndnaaaDoor
open Go.ChangeShapes Go.WideShapes Go.ChangeAt Go.RowKit

theorem own : ownKnob Tryd.prog.godebug = none := by kernel_rfl
theorem laidOut : laidOutB Tryd.prog = true := by kernel_rfl
theorem cells5 : Tryd.prog.cellsOf 5 = 1 := by kernel_rfl
theorem cells3 : Tryd.prog.cellsOf 3 = 1 := by kernel_rfl
theorem cells23 : Tryd.prog.cellsOf 23 = 1 := by kernel_rfl
theorem cells25 : Tryd.prog.cellsOf 25 = 4 := by kernel_rfl
theorem bytes25 : Tryd.prog.bytesOf 25 = 32 := by kernel_rfl
theorem u64_nat {a : Int} (h : (Lit.int .u64 a).wf = true) : ∃ n : Nat, a = n ∧ n < 18446744073709551616 := by
  simp [Lit.wf, IntKind.min, IntKind.max, IntKind.signed, IntKind.bits] at h
  exact ⟨a.toNat, by omega, by omega⟩

def tabZ : List Int := Lib.deBruijn64tab.map fun x => ((x : Nat) : Int)
theorem tb_of {W : World} (hL : laidMetH Tryd.prog [("math/bits.deBruijn64tab", Rows.laid_math_bits_deBruijn64tab)] W) : Tb W := by
  rw [MakeChecks.laidMetH_plain _ _ _ (by kernel_rfl)] at hL
  obtain ⟨g, t, cs, fuel, p, hg, hty, hvar, hd⟩ := Lib.laidMet.reads hL (.head _)
  obtain rfl := Option.some.inj ((show Tryd.prog.globalNamed "math/bits.deBruijn64tab" = some 0 by kernel_rfl).symm.trans hg)
  obtain rfl := Option.some.inj ((show (Tryd.prog.globals[0]?).map (·.type) = some 128 by kernel_rfl).symm.trans hty)
  have hcs : cs.toList = tabZ.map (Value.int .u8) := Lib.cells_of_tab (k := .u8) (zs := tabZ) Tryd.underlying128 Tryd.underlying5 cells5 (by kernel_rfl) hd
  intro j hj
  rw [World.var?_cell hg hvar j, ← Array.getElem?_toList, hcs]
  have hl : Lib.deBruijn64tab.length = 64 := by decide
  simp [tabZ, hl, hj]

set_option maxRecDepth 100000 in
/-- One call of the script, out of its reading. -/
theorem open_op {H : Type} {enc : TypeId × Value → H} {W : World} {fuel : Nat} {ad : Addr} {cs : List Value} {x : DataW H × List MemPlace} (hc : W.cells? 0 ad 4 = some cs) (h : DataW.trod enc Tryd.prog W 0 (fun _ => true) true fuel 25 cs = some x) :
    ∃ b o, ad = ⟨b, o, none⟩ ∧ ∃ q : Opr, (q.h < 18446744073709551616 ∧ q.d < 18446744073709551616) ∧ W.cell? ⟨b, o, none⟩ = some (.int .i64 q.k) ∧ W.cell? ⟨b, o + 2, none⟩ = some (.int .u64 (q.h : Nat)) ∧ W.cell? ⟨b, o + 3, none⟩ = some (.int .u64 (q.d : Nat)) := by
  obtain ⟨_, hlen, hcell⟩ := World.cells?_some hc
  obtain ⟨v0, v1, v2, v3, rfl⟩ : ∃ v0 v1 v2 v3, cs = [v0, v1, v2, v3] := by
    match cs, hlen with
    | [v0, v1, v2, v3], _ => exact ⟨v0, v1, v2, v3, rfl⟩
  obtain ⟨xs, n, rfl, rfl, _, hxl, hf⟩ := DataW.trod_struct Tryd.underlying25 h
  have h0 := hcell 0 (by omega)
  have hsp := World.cell?_spot h0
  obtain ⟨b, o, sp⟩ := ad
  have hsp2 : sp = none := by simpa [Addr.add] using hsp
  subst hsp2
  have f0 : DataW.trod enc Tryd.prog W 0 (fun _ => true) true n 3 (([v0, v1, v2, v3].drop 0).take (Tryd.prog.cellsOf 3)) = xs[0]? := hf 0 _ rfl
  rw [cells3] at f0
  have f2 : DataW.trod enc Tryd.prog W 0 (fun _ => true) true n 23 (([v0, v1, v2, v3].drop 2).take (Tryd.prog.cellsOf 23)) = xs[2]? := hf 2 _ rfl
  rw [cells23] at f2
  have f3 : DataW.trod enc Tryd.prog W 0 (fun _ => true) true n 23 (([v0, v1, v2, v3].drop 3).take (Tryd.prog.cellsOf 23)) = xs[3]? := hf 3 _ rfl
  rw [cells23] at f3
  have hxl4 : xs.length = 4 := hxl
  obtain ⟨x0, x1, x2, x3, rfl⟩ : ∃ x0 x1 x2 x3, xs = [x0, x1, x2, x3] := by
    match xs, hxl4 with
    | [x0, x1, x2, x3], _ => exact ⟨x0, x1, x2, x3, rfl⟩
  obtain ⟨K, e0, rfl, w0⟩ := DataW.trod_int Tryd.underlying3 f0
  obtain ⟨A, e2, rfl, w2⟩ := DataW.trod_int Tryd.underlying23 f2
  obtain ⟨B, e3, rfl, w3⟩ := DataW.trod_int Tryd.underlying23 f3
  obtain rfl : v0 = .int .i64 K := by simpa using e0
  obtain ⟨nh, rfl, hnh⟩ := u64_nat w2
  obtain ⟨nd, rfl, hnd⟩ := u64_nat w3
  obtain rfl : v2 = .int .u64 (nh : Nat) := by simpa using e2
  obtain rfl : v3 = .int .u64 (nd : Nat) := by simpa using e3
  refine ⟨b, o, rfl, ⟨K, 0, nh, nd⟩, ⟨hnh, hnd⟩, ?_, ?_, ?_⟩
  · simpa [Addr.add_lit] using h0
  · simpa [Addr.add_lit] using hcell 2 (by omega)
  · simpa [Addr.add_lit] using hcell 3 (by omega)

theorem open_script {H : Type} {enc : TypeId × Value → H} {W : World} {fuel : Nat} {a : Option Addr} {n c : Nat} {d : DataW H} {ps : List MemPlace} (h : DataW.trod enc Tryd.prog W 0 (fun _ => true) true fuel 48 [.slice a n c] = some (d, ps))
    (hsz : ∀ y ∈ d.weights Tryd.prog 48, y ≤ 140737488351232) : ∃ S : List Opr, S.length = n ∧ Scr W a S ∧ n ≤ 17592186044416 := by
  rcases DataW.trod_slice Tryd.underlying48 h with ⟨hcs, _⟩ | ⟨ad, len, cap, elems, rest, fu, rfl, hcs, hx, _, _, _, hel, hE, _, _⟩
  · simp at hcs
    exact ⟨[], by simp [hcs.2.1], ⟨by simp, .inl rfl⟩, by omega⟩
  · simp only [List.cons.injEq, Value.slice.injEq, and_true] at hcs
    obtain ⟨rfl, rfl, rfl⟩ := hcs
    simp only [Prod.mk.injEq] at hx
    obtain ⟨rfl, _⟩ := hx
    have hw1 := hsz (((elems.map (·.1)).length + (rest.map (·.1)).length) * Tryd.prog.bytesOf 25) (by
      simp only [DataW.weights, Tryd.underlying48]; exact List.mem_cons_self)
    rw [bytes25] at hw1
    simp only [List.length_map] at hw1
    have hall : ∀ i, i < n → ∃ b o, ad.add (i * 4) = ⟨b, o, none⟩ ∧ ∃ q : Opr, (q.h < 18446744073709551616 ∧ q.d < 18446744073709551616) ∧ W.cell? ⟨b, o, none⟩ = some (.int .i64 q.k) ∧ W.cell? ⟨b, o + 2, none⟩ = some (.int .u64 (q.h : Nat)) ∧ W.cell? ⟨b, o + 3, none⟩ = some (.int .u64 (q.d : Nat)) := by
      intro i hi
      have he := hE i hi
      rw [cells25] at he
      have hlt : i < elems.length := by omega
      rw [List.getElem?_eq_getElem hlt] at he
      obtain ⟨cs, hc, ht⟩ := Option.bind_eq_some_iff.1 he
      exact open_op hc ht
    by_cases h0 : n = 0
    · subst h0; exact ⟨[], rfl, ⟨by simp, .inl rfl⟩, by omega⟩
    · obtain ⟨b, o, hb, _⟩ := hall 0 (by omega)
      obtain ⟨b', o', sp⟩ := ad
      have hsp : sp = none := by
        have := congrArg Addr.spot hb
        simpa [Addr.add] using this
      subst hsp
      have hall2 : ∀ i : Fin n, ∃ q : Opr, (q.h < 18446744073709551616 ∧ q.d < 18446744073709551616) ∧ W.cell? ⟨b', o' + i.val * 4, none⟩ = some (.int .i64 q.k) ∧ W.cell? ⟨b', o' + i.val * 4 + 2, none⟩ = some (.int .u64 (q.h : Nat)) ∧ W.cell? ⟨b', o' + i.val * 4 + 3, none⟩ = some (.int .u64 (q.d : Nat)) := fun i => by
        obtain ⟨b2, o2, hb2, q, hop⟩ := hall i.val i.isLt
        rw [Addr.add_lit] at hb2
        simp only [Addr.mk.injEq, and_true] at hb2
        obtain ⟨rfl, rfl⟩ := hb2
        exact ⟨q, hop⟩
      obtain ⟨f, hf⟩ := Classical.axiomOfChoice hall2
      refine ⟨List.ofFn f, by simp, ⟨fun x hx => ?_, .inr ⟨b', o', rfl, fun j x hx => ?_⟩⟩, by omega⟩
      · obtain ⟨i, rfl⟩ := List.mem_ofFn.1 hx
        exact (hf i).1
      · have hj : j < n := by
          have := (List.getElem?_eq_some_iff.1 hx).1
          simpa using this
        have e : x = f ⟨j, hj⟩ := by
          rw [List.getElem?_ofFn] at hx
          simp [hj] at hx
          exact hx.symm
        subst e
        exact (hf ⟨j, hj⟩).2
end Go.Proofs.YtkknadkcpndnaaaDoor

/-
  A script with all that its calls say, out of its reading; no statement is proved here.
-/
namespace Go.Proofs.YtkknadkcpndnaaaDoor.Rf
open Go.ChangeShapes Go.WideShapes Go.ChangeAt Go.RowKit

/-- The script stands in memory. -/
def ScrG (w : World) (a : Option Addr) (S : List Opr) : Prop := (∀ x ∈ S, x.h < 18446744073709551616 ∧ x.d < 18446744073709551616) ∧ (S = [] ∨ ∃ b o, a = some ⟨b, o, none⟩ ∧ ∀ j x, S[j]? = some x →
  w.cell? ⟨b, o + j * 4, none⟩ = some (.int .i64 x.k) ∧ w.cell? ⟨b, o + j * 4 + 1, none⟩ = some (.int .i64 x.g) ∧ w.cell? ⟨b, o + j * 4 + 2, none⟩ = some (.int .u64 (x.h : Nat)) ∧ w.cell? ⟨b, o + j * 4 + 3, none⟩ = some (.int .u64 (x.d : Nat)))
theorem ScrG.keep0 {w w' : World} {a : Option Addr} {S : List Opr} (h : ScrG w a S) (e : Ext [] w w') : ScrG w' a S := by
  refine ⟨h.1, ?_⟩
  rcases h.2 with q | ⟨b, o, e1, hc⟩
  · exact .inl q
  · exact .inr ⟨b, o, e1, fun j x hx => by obtain ⟨c0, c1, c2, c3⟩ := hc j x hx; exact ⟨e.cell c0 (by simp), e.cell c1 (by simp), e.cell c2 (by simp), e.cell c3 (by simp)⟩⟩

set_option maxRecDepth 100000 in
/-- One call of the script, out of its reading. -/
theorem open_op4 {H : Type} {enc : TypeId × Value → H} {W : World} {fuel : Nat} {ad : Addr} {cs : List Value} {x : DataW H × List MemPlace} (hc : W.cells? 0 ad 4 = some cs) (h : DataW.trod enc Tryd.prog W 0 (fun _ => true) true fuel 25 cs = some x) :
    ∃ b o, ad = ⟨b, o, none⟩ ∧ ∃ q : Opr, (q.h < 18446744073709551616 ∧ q.d < 18446744073709551616) ∧ W.cell? ⟨b, o, none⟩ = some (.int .i64 q.k) ∧ W.cell? ⟨b, o + 1, none⟩ = some (.int .i64 q.g) ∧ W.cell? ⟨b, o + 2, none⟩ = some (.int .u64 (q.h : Nat)) ∧ W.cell? ⟨b, o + 3, none⟩ = some (.int .u64 (q.d : Nat)) := by
  obtain ⟨_, hlen, hcell⟩ := World.cells?_some hc
  obtain ⟨v0, v1, v2, v3, rfl⟩ : ∃ v0 v1 v2 v3, cs = [v0, v1, v2, v3] := by
    match cs, hlen with
    | [v0, v1, v2, v3], _ => exact ⟨v0, v1, v2, v3, rfl⟩
  obtain ⟨xs, n, rfl, rfl, _, hxl, hf⟩ := DataW.trod_struct Tryd.underlying25 h
  have h0 := hcell 0 (by omega)
  have hsp := World.cell?_spot h0
  obtain ⟨b, o, sp⟩ := ad
  have hsp2 : sp = none := by simpa [Addr.add] using hsp
  subst hsp2
  have f0 : DataW.trod enc Tryd.prog W 0 (fun _ => true) true n 3 (([v0, v1, v2, v3].drop 0).take (Tryd.prog.cellsOf 3)) = xs[0]? := hf 0 _ rfl
  rw [cells3] at f0
  have f1 : DataW.trod enc Tryd.prog W 0 (fun _ => true) true n 3 (([v0, v1, v2, v3].drop 1).take (Tryd.prog.cellsOf 3)) = xs[1]? := hf 1 _ rfl
  rw [cells3] at f1
  have f2 : DataW.trod enc Tryd.prog W 0 (fun _ => true) true n 23 (([v0, v1, v2, v3].drop 2).take (Tryd.prog.cellsOf 23)) = xs[2]? := hf 2 _ rfl
  rw [cells23] at f2
  have f3 : DataW.trod enc Tryd.prog W 0 (fun _ => true) true n 23 (([v0, v1, v2, v3].drop 3).take (Tryd.prog.cellsOf 23)) = xs[3]? := hf 3 _ rfl
  rw [cells23] at f3
  have hxl4 : xs.length = 4 := hxl
  obtain ⟨x0, x1, x2, x3, rfl⟩ : ∃ x0 x1 x2 x3, xs = [x0, x1, x2, x3] := by
    match xs, hxl4 with
    | [x0, x1, x2, x3], _ => exact ⟨x0, x1, x2, x3, rfl⟩
  obtain ⟨K, e0, rfl, w0⟩ := DataW.trod_int Tryd.underlying3 f0
  obtain ⟨M, e1, rfl, _⟩ := DataW.trod_int Tryd.underlying3 f1
  obtain ⟨A, e2, rfl, w2⟩ := DataW.trod_int Tryd.underlying23 f2
  obtain ⟨B, e3, rfl, w3⟩ := DataW.trod_int Tryd.underlying23 f3
  obtain rfl : v0 = .int .i64 K := by simpa using e0
  obtain rfl : v1 = .int .i64 M := by simpa using e1
  obtain ⟨nh, rfl, hnh⟩ := u64_nat w2
  obtain ⟨nd, rfl, hnd⟩ := u64_nat w3
  obtain rfl : v2 = .int .u64 (nh : Nat) := by simpa using e2
  obtain rfl : v3 = .int .u64 (nd : Nat) := by simpa using e3
  refine ⟨b, o, rfl, ⟨K, M, nh, nd⟩, ⟨hnh, hnd⟩, ?_, ?_, ?_, ?_⟩
  · simpa [Addr.add_lit] using h0
  · simpa [Addr.add_lit] using hcell 1 (by omega)
  · simpa [Addr.add_lit] using hcell 2 (by omega)
  · simpa [Addr.add_lit] using hcell 3 (by omega)

theorem open_script4 {H : Type} {enc : TypeId × Value → H} {W : World} {fuel : Nat} {a : Option Addr} {n c : Nat} {d : DataW H} {ps : List MemPlace} (h : DataW.trod enc Tryd.prog W 0 (fun _ => true) true fuel 48 [.slice a n c] = some (d, ps))
    (hsz : ∀ y ∈ d.weights Tryd.prog 48, y ≤ 140737488351232) : ∃ S : List Opr, S.length = n ∧ ScrG W a S ∧ n ≤ 17592186044416 := by
  rcases DataW.trod_slice Tryd.underlying48 h with ⟨hcs, _⟩ | ⟨ad, len, cap, elems, rest, fu, rfl, hcs, hx, _, _, _, hel, hE, _, _⟩
  · simp at hcs
    exact ⟨[], by simp [hcs.2.1], ⟨by simp, .inl rfl⟩, by omega⟩
  · simp only [List.cons.injEq, Value.slice.injEq, and_true] at hcs
    obtain ⟨rfl, rfl, rfl⟩ := hcs
    simp only [Prod.mk.injEq] at hx
    obtain ⟨rfl, _⟩ := hx
    have hw1 := hsz (((elems.map (·.1)).length + (rest.map (·.1)).length) * Tryd.prog.bytesOf 25) (by
      simp only [DataW.weights, Tryd.underlying48]; exact List.mem_cons_self)
    rw [bytes25] at hw1
    simp only [List.length_map] at hw1
    have hall : ∀ i, i < n → ∃ b o, ad.add (i * 4) = ⟨b, o, none⟩ ∧ ∃ q : Opr, (q.h < 18446744073709551616 ∧ q.d < 18446744073709551616) ∧ W.cell? ⟨b, o, none⟩ = some (.int .i64 q.k) ∧ W.cell? ⟨b, o + 1, none⟩ = some (.int .i64 q.g) ∧ W.cell? ⟨b, o + 2, none⟩ = some (.int .u64 (q.h : Nat)) ∧ W.cell? ⟨b, o + 3, none⟩ = some (.int .u64 (q.d : Nat)) := by
      intro i hi
      have he := hE i hi
      rw [cells25] at he
      have hlt : i < elems.length := by omega
      rw [List.getElem?_eq_getElem hlt] at he
      obtain ⟨cs, hc, ht⟩ := Option.bind_eq_some_iff.1 he
      exact open_op4 hc ht
    by_cases h0 : n = 0
    · subst h0; exact ⟨[], rfl, ⟨by simp, .inl rfl⟩, by omega⟩
    · obtain ⟨b, o, hb, _⟩ := hall 0 (by omega)
      obtain ⟨b', o', sp⟩ := ad
      have hsp : sp = none := by
        have := congrArg Addr.spot hb
        simpa [Addr.add] using this
      subst hsp
      have hall2 : ∀ i : Fin n, ∃ q : Opr, (q.h < 18446744073709551616 ∧ q.d < 18446744073709551616) ∧ W.cell? ⟨b', o' + i.val * 4, none⟩ = some (.int .i64 q.k) ∧ W.cell? ⟨b', o' + i.val * 4 + 1, none⟩ = some (.int .i64 q.g) ∧ W.cell? ⟨b', o' + i.val * 4 + 2, none⟩ = some (.int .u64 (q.h : Nat)) ∧ W.cell? ⟨b', o' + i.val * 4 + 3, none⟩ = some (.int .u64 (q.d : Nat)) := fun i => by
        obtain ⟨b2, o2, hb2, q, hop⟩ := hall i.val i.isLt
        rw [Addr.add_lit] at hb2
        simp only [Addr.mk.injEq, and_true] at hb2
        obtain ⟨rfl, rfl⟩ := hb2
        exact ⟨q, hop⟩
      obtain ⟨f, hf⟩ := Classical.axiomOfChoice hall2
      refine ⟨List.ofFn f, by simp, ⟨fun x hx => ?_, .inr ⟨b', o', rfl, fun j x hx => ?_⟩⟩, by omega⟩
      · obtain ⟨i, rfl⟩ := List.mem_ofFn.1 hx
        exact (hf i).1
      · have hj : j < n := by
          have := (List.getElem?_eq_some_iff.1 hx).1
          simpa using this
        have e : x = f ⟨j, hj⟩ := by
          rw [List.getElem?_ofFn] at hx
          simp [hj] at hx
          exact hx.symm
        subst e
        exact (hf ⟨j, hj⟩).2
end Go.Proofs.YtkknadkcpndnaaaDoor.Rf
