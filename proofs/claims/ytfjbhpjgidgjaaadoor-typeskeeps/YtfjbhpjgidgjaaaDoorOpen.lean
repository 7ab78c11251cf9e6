/-
  What a walk is told of a table that came in, and of the program's own table of parts; no statement is proved here.
-/
import Derived.Test.YtfjbhpjgidgjaaaDoorHas
import Derived.OpenShut
import Derived.ShutString
import Derived.ChangeOld
import Derived.SizedLaws
import Derived.Lib.LaidU8
import Derived.Lay
import Derived.MakeChecks
import Derived.Handed
namespace Go.Proofs.YtfjbhpjgidgjaaaDoor
open Go.ChangeShapes Go.WideShapes Go.ChangeAt Go.RowKit

theorem own : ownKnob Tryd.prog.godebug = none := by kernel_rfl
theorem laidOut : laidOutB Tryd.prog = true := by kernel_rfl

theorem weightsAll_mem {H : Type} {P : Program} {e : TypeId} : ∀ {l : List (DataW H)} {d : DataW H}, d ∈ l → ∀ n ∈ d.weights P e, n ∈ DataW.weightsAll P e l
  | x :: r, d, h, n, hn => by
    unfold DataW.weightsAll
    rcases List.mem_cons.1 h with rfl | h
    · exact List.mem_append.2 (.inl hn)
    · exact List.mem_append.2 (.inr (weightsAll_mem h n hn))

theorem bytes3 : Tryd.prog.bytesOf 3 = 8 := by kernel_rfl
theorem bytes48 : Tryd.prog.bytesOf 48 = 56 := by kernel_rfl
theorem cells48 : Tryd.prog.cellsOf 48 = 5 := by kernel_rfl
theorem cells3 : Tryd.prog.cellsOf 3 = 1 := by kernel_rfl
theorem cells45 : Tryd.prog.cellsOf 45 = 1 := by kernel_rfl

set_option maxRecDepth 100000 in
/-- A type out of its reading. -/
theorem open_cells {H : Type} {enc : TypeId × Value → H} {W : World} {fuel : Nat} {cs : List Value} {x : DataW H × List MemPlace} (hlen : cs.length = 5) (h : DataW.trod enc Tryd.prog W 0 (fun _ => true) true fuel 48 cs = some x)
    (hsz : ∀ y ∈ x.1.weights Tryd.prog 48, y ≤ 140737488351232) : ∃ t fa fc, cs = [.int .i64 t.kind, .int .i64 t.elem, .int .i64 t.key, .int .i64 t.len, .slice fa t.fields.length fc] ∧ FOk W t fa := by
  obtain ⟨v0, v1, v2, v3, v4, rfl⟩ : ∃ v0 v1 v2 v3 v4, cs = [v0, v1, v2, v3, v4] := by
    match cs, hlen with
    | [v0, v1, v2, v3, v4], _ => exact ⟨v0, v1, v2, v3, v4, rfl⟩
  obtain ⟨xs, n, rfl, rfl, _, hxl, hf⟩ := DataW.trod_struct Tryd.underlying48 h
  have f0 : DataW.trod enc Tryd.prog W 0 (fun _ => true) true n 3 (([v0, v1, v2, v3, v4].drop 0).take (Tryd.prog.cellsOf 3)) = xs[0]? := hf 0 _ rfl
  rw [cells3] at f0
  have f1 : DataW.trod enc Tryd.prog W 0 (fun _ => true) true n 3 (([v0, v1, v2, v3, v4].drop 1).take (Tryd.prog.cellsOf 3)) = xs[1]? := hf 1 _ rfl
  rw [cells3] at f1
  have f2 : DataW.trod enc Tryd.prog W 0 (fun _ => true) true n 3 (([v0, v1, v2, v3, v4].drop 2).take (Tryd.prog.cellsOf 3)) = xs[2]? := hf 2 _ rfl
  rw [cells3] at f2
  have f3 : DataW.trod enc Tryd.prog W 0 (fun _ => true) true n 3 (([v0, v1, v2, v3, v4].drop 3).take (Tryd.prog.cellsOf 3)) = xs[3]? := hf 3 _ rfl
  rw [cells3] at f3
  have f4 : DataW.trod enc Tryd.prog W 0 (fun _ => true) true n 45 (([v0, v1, v2, v3, v4].drop 4).take (Tryd.prog.cellsOf 45)) = xs[4]? := hf 4 _ rfl
  rw [cells45] at f4
  have hxl5 : xs.length = 5 := hxl
  obtain ⟨x0, x1, x2, x3, x4, rfl⟩ : ∃ x0 x1 x2 x3 x4, xs = [x0, x1, x2, x3, x4] := by
    match xs, hxl5 with
    | [x0, x1, x2, x3, x4], _ => exact ⟨x0, x1, x2, x3, x4, rfl⟩
  obtain ⟨K, e0, rfl, w0⟩ := DataW.trod_int Tryd.underlying3 f0
  obtain ⟨A, e1, rfl, w1⟩ := DataW.trod_int Tryd.underlying3 f1
  obtain ⟨N, e2, rfl, w2⟩ := DataW.trod_int Tryd.underlying3 f2
  obtain ⟨F, e3, rfl, w3⟩ := DataW.trod_int Tryd.underlying3 f3
  obtain rfl : v0 = .int .i64 K := by simpa using e0
  obtain rfl : v1 = .int .i64 A := by simpa using e1
  obtain rfl : v2 = .int .i64 N := by simpa using e2
  obtain rfl : v3 = .int .i64 F := by simpa using e3
  rcases open_ints Tryd.underlying45 Tryd.underlying3 cells3 f4 with ⟨hcs, _⟩ | ⟨q, l, c, zs, hcs, _, hl, hm, hz, hx, hcl, hwz⟩
  · obtain rfl : v4 = .slice none 0 0 := by simpa using hcs
    exact ⟨⟨K, A, N, F, []⟩, none, 0, rfl, .inl rfl, by simp⟩
  · obtain rfl : v4 = .slice (some q) l c := by simpa using hcs
    simp only [if_true] at hz
    have hlen2 : (zs.take l).length = l := by simp; omega
    subst hx
    have := hsz (((lits (H := H) .i64 (zs.take l)).length + (lits (H := H) .i64 (zs.drop l)).length) * Tryd.prog.bytesOf 3) (by
      simp only [DataW.weights, Tryd.underlying48]
      refine DataW.weights_mem_each (ts := [3, 3, 3, 3, 45]) (j := 4) (t := 45) rfl rfl _ ?_
      simp only [DataW.weights, Tryd.underlying45]
      exact List.mem_cons_self)
    rw [bytes3] at this
    simp only [lits, List.length_map, List.length_take, List.length_drop] at this
    refine ⟨⟨K, A, N, F, zs.take l⟩, some q, c, by simp only [hlen2], ?_, by simp only [hlen2]; omega⟩
    by_cases h0 : l = 0
    · left; simp [h0]
    · right
      obtain ⟨b, o, rfl, hc2⟩ := ints_at hcl (by omega)
      refine ⟨b, o, rfl, fun j hj => ?_⟩
      simp only [List.length_map, hlen2] at hj
      have hj2 : j < zs.length := by omega
      rw [hc2 j hj2]
      simp [List.getD, hj, hj2]

theorem open_ty {H : Type} {enc : TypeId × Value → H} {W : World} {fuel : Nat} {ad : Addr} {cs : List Value} {x : DataW H × List MemPlace} (hc : W.cells? 0 ad 5 = some cs) (h : DataW.trod enc Tryd.prog W 0 (fun _ => true) true fuel 48 cs = some x)
    (hsz : ∀ y ∈ x.1.weights Tryd.prog 48, y ≤ 140737488351232) : ∃ b o, ad = ⟨b, o, none⟩ ∧ ∃ t fa fc, TyAt W b o t fa fc := by
  obtain ⟨_, hlen, hcell⟩ := World.cells?_some hc
  obtain ⟨t, fa, fc, rfl, hF⟩ := open_cells hlen h hsz
  have h0 := hcell 0 (by omega)
  have hsp := World.cell?_spot h0
  obtain ⟨b, o, sp⟩ := ad
  have hsp2 : sp = none := by simpa [Addr.add] using hsp
  subst hsp2
  refine ⟨b, o, rfl, t, fa, fc, ?_, ?_, ?_, ?_, ?_, hF⟩
  · simpa [Addr.add_lit] using h0
  · simpa [Addr.add_lit] using hcell 1 (by omega)
  · simpa [Addr.add_lit] using hcell 2 (by omega)
  · simpa [Addr.add_lit] using hcell 3 (by omega)
  · simpa [Addr.add_lit] using hcell 4 (by omega)

theorem pick_list {α : Type} (d : α) (p : Nat → α → Prop) : ∀ n, (∀ i, i < n → ∃ x, p i x) → ∃ l : List α, l.length = n ∧ ∀ i, i < n → p i (l.getD i d)
  | 0, _ => ⟨[], rfl, fun i hi => by omega⟩
  | n + 1, h => by
    obtain ⟨l, h1, h2⟩ := pick_list d p n (fun i hi => h i (by omega))
    obtain ⟨x, hx⟩ := h n (by omega)
    refine ⟨l ++ [x], by simp [h1], fun i hi => ?_⟩
    by_cases e : i = n
    · subst e; simpa [List.getD, ← h1] using hx
    · have := h2 i (by omega)
      simpa [List.getD, List.getElem?_append_left (show i < l.length by omega)] using this

theorem open_table {H : Type} {enc : TypeId × Value → H} {W : World} {fuel : Nat} {a : Option Addr} {n c : Nat} {d : DataW H} {ps : List MemPlace} (h : DataW.trod enc Tryd.prog W 0 (fun _ => true) true fuel 22 [.slice a n c] = some (d, ps))
    (hsz : ∀ y ∈ d.weights Tryd.prog 22, y ≤ 140737488351232) : ∃ ts : List Ty, Tab W a ts ∧ ts.length = n ∧ n ≤ c := by
  rcases DataW.trod_slice Tryd.underlying22 h with ⟨hcs, _⟩ | ⟨ad, len, cap, elems, rest, fu, rfl, hcs, hx, _, hlc, _, hel, hE, _, _⟩
  · simp at hcs
    obtain ⟨_, rfl, rfl⟩ := hcs
    exact ⟨[], ⟨.inl rfl, by simp⟩, rfl, Nat.le_refl _⟩
  · simp only [List.cons.injEq, Value.slice.injEq, and_true] at hcs
    obtain ⟨rfl, rfl, rfl⟩ := hcs
    simp only [Prod.mk.injEq] at hx
    obtain ⟨rfl, _⟩ := hx
    have hw1 := hsz (((elems.map (·.1)).length + (rest.map (·.1)).length) * Tryd.prog.bytesOf 48) (by
      simp only [DataW.weights, Tryd.underlying22]; exact List.mem_cons_self)
    rw [bytes48] at hw1
    simp only [List.length_map] at hw1
    have hall : ∀ i, i < n → ∃ b o, ad.add (i * 5) = ⟨b, o, none⟩ ∧ ∃ t fa fc, TyAt W b o t fa fc := by
      intro i hi
      have he := hE i hi
      rw [cells48] at he
      have hlt : i < elems.length := by omega
      rw [List.getElem?_eq_getElem hlt] at he
      obtain ⟨cs, hc, ht⟩ := Option.bind_eq_some_iff.1 he
      refine open_ty hc ht (fun y hy => hsz y ?_)
      simp only [DataW.weights, Tryd.underlying22]
      refine List.mem_cons_of_mem _ (List.mem_append.2 (.inl ?_))
      exact weightsAll_mem (List.mem_map.2 ⟨elems[i], List.getElem_mem hlt, rfl⟩) y hy
    by_cases h0 : n = 0
    · exact ⟨[], ⟨.inl rfl, by simp⟩, by simp [h0], by omega⟩
    · obtain ⟨b, o, hb, _⟩ := hall 0 (by omega)
      obtain ⟨b', o', sp⟩ := ad
      have hsp : sp = none := by
        have := congrArg Addr.spot hb
        simpa [Addr.add] using this
      subst hsp
      obtain ⟨ts, hl, hp⟩ := pick_list zeroTy (fun i t => ∃ fa fc, TyAt W b' (o' + i * 5) t fa fc) n (fun i hi => by
        obtain ⟨b2, o2, hb2, t, fa, fc, ht⟩ := hall i hi
        rw [Addr.add_lit] at hb2
        simp only [Addr.mk.injEq, and_true] at hb2
        obtain ⟨rfl, rfl⟩ := hb2
        exact ⟨t, fa, fc, ht⟩)
      refine ⟨ts, ⟨.inr ⟨b', o', rfl, fun i hi => ?_⟩, by omega⟩, hl, hlc⟩
      have := hp i (by omega)
      simpa [tyAt] using this

/-- What the program's own table of parts holds. -/
theorem gl_of {W : World} (hL : laidMetH Tryd.prog [("heddle/types.partsOf", Rows.laid_heddle_types_partsOf)] W) : Gl W := by
  rw [MakeChecks.laidMetH_plain _ _ _ (by kernel_rfl)] at hL
  obtain ⟨g, t, cs, fuel, p, hg, hty, hvar, hd⟩ := Lib.laidMet.reads hL (.head _)
  obtain rfl := Option.some.inj ((show Tryd.prog.globalNamed "heddle/types.partsOf" = some 0 by kernel_rfl).symm.trans hg)
  obtain rfl := Option.some.inj ((show (Tryd.prog.globals[0]?).map (·.type) = some 110 by kernel_rfl).symm.trans hty)
  have hcs : cs.toList = [0, 0, 0, 0, 0, 2, 3, 0, 8, 6, 2].map (Value.int .i64) := Lib.cells_of_tab (k := .i64) (zs := [0, 0, 0, 0, 0, 2, 3, 0, 8, 6, 2]) Tryd.underlying110 Tryd.underlying3 cells3 (by kernel_rfl) hd
  intro k hk
  rw [World.var?_cell hg hvar k, ← Array.getElem?_toList, hcs]
  have : k = 0 ∨ k = 1 ∨ k = 2 ∨ k = 3 ∨ k = 4 ∨ k = 5 ∨ k = 6 ∨ k = 7 ∨ k = 8 ∨ k = 9 ∨ k = 10 := by omega
  rcases this with rfl | rfl | rfl | rfl | rfl | rfl | rfl | rfl | rfl | rfl | rfl <;> rfl

end Go.Proofs.YtfjbhpjgidgjaaaDoor
