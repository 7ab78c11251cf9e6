/-
  Open: joined by program; no statement is proved here.
-/
import Derived.Test.YtkfagfdefkaenaaDoorZQ
import Derived.Test.YtkfagfdefkaenaaDoorTie
import Derived.OpenShut
import Derived.ShutString
import Derived.ChangeOld
import Derived.SizedLaws
import Derived.Lib.LaidU8
import Derived.Lay
import Derived.MakeChecks
import Derived.Handed
/-
  What a walk is told of the library's own table and of a script that came in; no statement is proved here.
-/
namespace Go.Proofs.YtkfagfdefkaenaaDoor
open Go.ChangeShapes Go.WideShapes Go.ChangeAt Go.RowKit

theorem own : ownKnob Tryd.prog.godebug = none := by kernel_rfl
theorem laidOut : laidOutB Tryd.prog = true := by kernel_rfl
theorem cells5 : Tryd.prog.cellsOf 5 = 1 := by kernel_rfl
theorem cellsOf4 : Tryd.prog.cellsOf 4 = 1 := by kernel_rfl
theorem cellsOf37 : Tryd.prog.cellsOf 37 = 1 := by kernel_rfl
theorem cellsOf39 : Tryd.prog.cellsOf 39 = 3 := by kernel_rfl
theorem bytesOf39 : Tryd.prog.bytesOf 39 = 24 := by kernel_rfl
theorem u64_nat {a : Int} (h : (Lit.int .u64 a).wf = true) : ∃ n : Nat, a = n ∧ n < 18446744073709551616 := by
  simp [Lit.wf, IntKind.min, IntKind.max, IntKind.signed, IntKind.bits] at h
  exact ⟨a.toNat, by omega, by omega⟩

def tabZ : List Int := Lib.deBruijn64tab.map fun x => ((x : Nat) : Int)
theorem tb_of {W : World} (hL : laidMetH Tryd.prog [("math/bits.deBruijn64tab", Rows.laid_math_bits_deBruijn64tab)] W) : Tb W := by
  rw [MakeChecks.laidMetH_plain _ _ _ (by kernel_rfl)] at hL
  obtain ⟨g, t, cs, fuel, p, hg, hty, hvar, hd⟩ := Lib.laidMet.reads hL (.head _)
  obtain rfl := Option.some.inj ((show Tryd.prog.globalNamed "math/bits.deBruijn64tab" = some 0 by kernel_rfl).symm.trans hg)
  obtain rfl := Option.some.inj ((show (Tryd.prog.globals[0]?).map (·.type) = some 173 by kernel_rfl).symm.trans hty)
  have hcs : cs.toList = tabZ.map (Value.int .u8) := Lib.cells_of_tab (k := .u8) (zs := tabZ) Tryd.underlying173 Tryd.underlying5 cells5 (by kernel_rfl) hd
  intro j hj
  rw [World.var?_cell hg hvar j, ← Array.getElem?_toList, hcs]
  have hl : Lib.deBruijn64tab.length = 64 := by decide
  simp [tabZ, hl, hj]

set_option maxRecDepth 100000 in
/-- One operation of the script, out of its reading. -/
theorem open_op {H : Type} {enc : TypeId × Value → H} {W : World} {fuel : Nat} {ad : Addr} {cs : List Value} {x : DataW H × List MemPlace} (hc : W.cells? 0 ad 3 = some cs) (h : DataW.trod enc Tryd.prog W 0 (fun _ => true) true fuel 39 cs = some x) :
    ∃ b o, ad = ⟨b, o, none⟩ ∧ ∃ q : Opq, (q.h < 18446744073709551616 ∧ q.d < 18446744073709551616) ∧ W.cell? ⟨b, o, none⟩ = some (.bool q.del) ∧ W.cell? ⟨b, o + 1, none⟩ = some (.int .u64 (q.h : Nat)) ∧ W.cell? ⟨b, o + 2, none⟩ = some (.int .u64 (q.d : Nat)) := by
  obtain ⟨_, hlen, hcell⟩ := World.cells?_some hc
  obtain ⟨v0, v1, v2, rfl⟩ : ∃ v0 v1 v2, cs = [v0, v1, v2] := by
    match cs, hlen with
    | [v0, v1, v2], _ => exact ⟨v0, v1, v2, rfl⟩
  obtain ⟨xs, n, rfl, rfl, _, hxl, hf⟩ := DataW.trod_struct Tryd.underlying39 h
  have h0 := hcell 0 (by omega)
  have hsp := World.cell?_spot h0
  obtain ⟨b, o, sp⟩ := ad
  have hsp2 : sp = none := by simpa [Addr.add] using hsp
  subst hsp2
  have f0 : DataW.trod enc Tryd.prog W 0 (fun _ => true) true n 4 (([v0, v1, v2].drop 0).take (Tryd.prog.cellsOf 4)) = xs[0]? := hf 0 _ rfl
  rw [cellsOf4] at f0
  have f1 : DataW.trod enc Tryd.prog W 0 (fun _ => true) true n 37 (([v0, v1, v2].drop 1).take (Tryd.prog.cellsOf 37)) = xs[1]? := hf 1 _ rfl
  rw [cellsOf37] at f1
  have f2 : DataW.trod enc Tryd.prog W 0 (fun _ => true) true n 37 (([v0, v1, v2].drop 2).take (Tryd.prog.cellsOf 37)) = xs[2]? := hf 2 _ rfl
  rw [cellsOf37] at f2
  have hxl3 : xs.length = 3 := hxl
  obtain ⟨x0, x1, x2, rfl⟩ : ∃ x0 x1 x2, xs = [x0, x1, x2] := by
    match xs, hxl3 with
    | [x0, x1, x2], _ => exact ⟨x0, x1, x2, rfl⟩
  obtain ⟨K, e0, rfl⟩ := DataW.trod_bool Tryd.underlying4 f0
  obtain ⟨A, e1, rfl, w1⟩ := DataW.trod_int Tryd.underlying37 f1
  obtain ⟨B, e2, rfl, w2⟩ := DataW.trod_int Tryd.underlying37 f2
  obtain rfl : v0 = .bool K := by simpa using e0
  obtain ⟨nh, rfl, hnh⟩ := u64_nat w1
  obtain ⟨nd, rfl, hnd⟩ := u64_nat w2
  obtain rfl : v1 = .int .u64 (nh : Nat) := by simpa using e1
  obtain rfl : v2 = .int .u64 (nd : Nat) := by simpa using e2
  refine ⟨b, o, rfl, ⟨K, nh, nd⟩, ⟨hnh, hnd⟩, ?_, ?_, ?_⟩
  · simpa [Addr.add_lit] using h0
  · simpa [Addr.add_lit] using hcell 1 (by omega)
  · simpa [Addr.add_lit] using hcell 2 (by omega)

theorem open_script {H : Type} {enc : TypeId × Value → H} {W : World} {fuel : Nat} {a : Option Addr} {n c : Nat} {d : DataW H} {ps : List MemPlace} (h : DataW.trod enc Tryd.prog W 0 (fun _ => true) true fuel 33 [.slice a n c] = some (d, ps))
    (hsz : ∀ y ∈ d.weights Tryd.prog 33, y ≤ 140737488351232) : ∃ S : List Opq, S.length = n ∧ Scq W a S ∧ n ≤ 17592186044416 := by
  rcases DataW.trod_slice Tryd.underlying33 h with ⟨hcs, _⟩ | ⟨ad, len, cap, elems, rest, fu, rfl, hcs, hx, _, _, _, hel, hE, _, _⟩
  · simp at hcs
    exact ⟨[], by simp [hcs.2.1], ⟨by simp, .inl rfl⟩, by omega⟩
  · simp only [List.cons.injEq, Value.slice.injEq, and_true] at hcs
    obtain ⟨rfl, rfl, rfl⟩ := hcs
    simp only [Prod.mk.injEq] at hx
    obtain ⟨rfl, _⟩ := hx
    have hw1 := hsz (((elems.map (·.1)).length + (rest.map (·.1)).length) * Tryd.prog.bytesOf 39) (by
      simp only [DataW.weights, Tryd.underlying33]; exact List.mem_cons_self)
    rw [bytesOf39] at hw1
    simp only [List.length_map] at hw1
    have hall : ∀ i, i < n → ∃ b o, ad.add (i * 3) = ⟨b, o, none⟩ ∧ ∃ q : Opq, (q.h < 18446744073709551616 ∧ q.d < 18446744073709551616) ∧ W.cell? ⟨b, o, none⟩ = some (.bool q.del) ∧ W.cell? ⟨b, o + 1, none⟩ = some (.int .u64 (q.h : Nat)) ∧ W.cell? ⟨b, o + 2, none⟩ = some (.int .u64 (q.d : Nat)) := by
      intro i hi
      have he := hE i hi
      rw [cellsOf39] at he
      have hlt : i < elems.length := by omega
      rw [List.getElem?_eq_getElem hlt] at he
      obtain ⟨cs, hc, ht⟩ := Option.bind_eq_some_iff.1 he
      exact open_op hc ht
    by_cases h0 : n = 0
    · subst h0; exact ⟨[], rfl, ⟨by simp, .inl rfl⟩, by omega⟩
    · obtain ⟨b, o, hb, _⟩ := hall 0 (by omega)
      obtain ⟨b', o', sp⟩ := ad
      have hsp : sp = none := by
        have := congrArg Addr.spot hb
        simpa [Addr.add] using this
      subst hsp
      have hall2 : ∀ i : Fin n, ∃ q : Opq, (q.h < 18446744073709551616 ∧ q.d < 18446744073709551616) ∧ W.cell? ⟨b', o' + i.val * 3, none⟩ = some (.bool q.del) ∧ W.cell? ⟨b', o' + i.val * 3 + 1, none⟩ = some (.int .u64 (q.h : Nat)) ∧ W.cell? ⟨b', o' + i.val * 3 + 2, none⟩ = some (.int .u64 (q.d : Nat)) := fun i => by
        obtain ⟨b2, o2, hb2, q, hop⟩ := hall i.val i.isLt
        rw [Addr.add_lit] at hb2
        simp only [Addr.mk.injEq, and_true] at hb2
        obtain ⟨rfl, rfl⟩ := hb2
        exact ⟨q, hop⟩
      obtain ⟨f, hf⟩ := Classical.axiomOfChoice hall2
      refine ⟨List.ofFn f, by simp, ⟨fun x hx => ?_, .inr ⟨b', o', rfl, fun j x hx => ?_⟩⟩, by omega⟩
      · obtain ⟨i, rfl⟩ := List.mem_ofFn.1 hx
        exact (hf i).1
      · have hj : j < n := by
          have := (List.getElem?_eq_some_iff.1 hx).1
          simpa using this
        have e : x = f ⟨j, hj⟩ := by
          rw [List.getElem?_ofFn] at hx
          simp [hj] at hx
          exact hx.symm
        subst e
        exact (hf ⟨j, hj⟩).2
end Go.Proofs.YtkfagfdefkaenaaDoor
