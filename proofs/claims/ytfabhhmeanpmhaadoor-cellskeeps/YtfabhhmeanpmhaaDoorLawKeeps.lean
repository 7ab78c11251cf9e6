/-
  CellsKeeps answers true for every value of every table and every number, and its arguments read as before; the package variables are as their initialisers lay them (the card ties them).
-/
import Derived.Test.YtfabhhmeanpmhaaDoorWKeeps
import Derived.Test.YtfabhhmeanpmhaaDoorOpen
import Derived.Test.YtfabhhmeanpmhaaDoorCards
import Derived.Test.YtfabhhmeanpmhaaDoorTie
namespace Go.Proofs.YtfabhhmeanpmhaaDoor
open Go.ChangeShapes Go.WideShapes Go.ChangeAt Go.RowKit

set_option maxRecDepth 100000 in
theorem open_cellsC {H : Type} {enc : TypeId × Value → H} {W : World} {fuel : Nat} {cs : List Value} {x : DataW H × List MemPlace} (hlen : cs.length = 5) (h : DataW.trod enc Tryd.prog W 0 (fun _ => true) true fuel 45 cs = some x)
    (hsz : ∀ y ∈ x.1.weights Tryd.prog 45, y ≤ 140737488351232) : ∃ t fa fc, cs = [.int .i64 t.kind, .int .i64 t.elem, .int .i64 t.key, .int .i64 t.len, .slice fa t.fields.length fc] ∧ FOk W t fa ∧ t.fields.length ≤ fc := by
  obtain ⟨v0, v1, v2, v3, v4, rfl⟩ : ∃ v0 v1 v2 v3 v4, cs = [v0, v1, v2, v3, v4] := by
    match cs, hlen with
    | [v0, v1, v2, v3, v4], _ => exact ⟨v0, v1, v2, v3, v4, rfl⟩
  obtain ⟨xs, n, rfl, rfl, _, hxl, hf⟩ := DataW.trod_struct Tryd.underlying45 h
  have f0 : DataW.trod enc Tryd.prog W 0 (fun _ => true) true n 3 (([v0, v1, v2, v3, v4].drop 0).take (Tryd.prog.cellsOf 3)) = xs[0]? := hf 0 _ rfl
  rw [cells3] at f0
  have f1 : DataW.trod enc Tryd.prog W 0 (fun _ => true) true n 3 (([v0, v1, v2, v3, v4].drop 1).take (Tryd.prog.cellsOf 3)) = xs[1]? := hf 1 _ rfl
  rw [cells3] at f1
  have f2 : DataW.trod enc Tryd.prog W 0 (fun _ => true) true n 3 (([v0, v1, v2, v3, v4].drop 2).take (Tryd.prog.cellsOf 3)) = xs[2]? := hf 2 _ rfl
  rw [cells3] at f2
  have f3 : DataW.trod enc Tryd.prog W 0 (fun _ => true) true n 3 (([v0, v1, v2, v3, v4].drop 3).take (Tryd.prog.cellsOf 3)) = xs[3]? := hf 3 _ rfl
  rw [cells3] at f3
  have f4 : DataW.trod enc Tryd.prog W 0 (fun _ => true) true n 42 (([v0, v1, v2, v3, v4].drop 4).take (Tryd.prog.cellsOf 42)) = xs[4]? := hf 4 _ rfl
  rw [cells42] at f4
  have hxl5 : xs.length = 5 := hxl
  obtain ⟨x0, x1, x2, x3, x4, rfl⟩ : ∃ x0 x1 x2 x3 x4, xs = [x0, x1, x2, x3, x4] := by
    match xs, hxl5 with
    | [x0, x1, x2, x3, x4], _ => exact ⟨x0, x1, x2, x3, x4, rfl⟩
  obtain ⟨K, e0, rfl, w0⟩ := DataW.trod_int Tryd.underlying3 f0
  obtain ⟨A, e1, rfl, w1⟩ := DataW.trod_int Tryd.underlying3 f1
  obtain ⟨N, e2, rfl, w2⟩ := DataW.trod_int Tryd.underlying3 f2
  obtain ⟨F, e3, rfl, w3⟩ := DataW.trod_int Tryd.underlying3 f3
  obtain rfl : v0 = .int .i64 K := by simpa using e0
  obtain rfl : v1 = .int .i64 A := by simpa using e1
  obtain rfl : v2 = .int .i64 N := by simpa using e2
  obtain rfl : v3 = .int .i64 F := by simpa using e3
  rcases open_ints Tryd.underlying42 Tryd.underlying3 cells3 f4 with ⟨hcs, _⟩ | ⟨q, l, c, zs, hcs, _, hl, hm, hz, hx, hcl, hwz⟩
  · obtain rfl : v4 = .slice none 0 0 := by simpa using hcs
    exact ⟨⟨K, A, N, F, []⟩, none, 0, rfl, ⟨.inl rfl, by simp⟩, Nat.le_refl _⟩
  · obtain rfl : v4 = .slice (some q) l c := by simpa using hcs
    simp only [if_true] at hz
    have hlen2 : (zs.take l).length = l := by simp; omega
    subst hx
    have := hsz (((lits (H := H) .i64 (zs.take l)).length + (lits (H := H) .i64 (zs.drop l)).length) * Tryd.prog.bytesOf 3) (by
      simp only [DataW.weights, Tryd.underlying45]
      refine DataW.weights_mem_each (ts := [3, 3, 3, 3, 42]) (j := 4) (t := 42) rfl rfl _ ?_
      simp only [DataW.weights, Tryd.underlying42]
      exact List.mem_cons_self)
    rw [bytes3] at this
    simp only [lits, List.length_map, List.length_take, List.length_drop] at this
    refine ⟨⟨K, A, N, F, zs.take l⟩, some q, c, by simp only [hlen2], ⟨?_, by simp only [hlen2]; omega⟩, by simp only [hlen2]; omega⟩
    by_cases h0 : l = 0
    · left; simp [h0]
    · right
      obtain ⟨b, o, rfl, hc2⟩ := ints_at hcl (by omega)
      refine ⟨b, o, rfl, fun j hj => ?_⟩
      simp only [List.length_map, hlen2] at hj
      have hj2 : j < zs.length := by omega
      rw [hc2 j hj2]
      simp [List.getD, hj, hj2]

theorem open_tyC {H : Type} {enc : TypeId × Value → H} {W : World} {fuel : Nat} {ad : Addr} {cs : List Value} {x : DataW H × List MemPlace} (hc : W.cells? 0 ad 5 = some cs) (h : DataW.trod enc Tryd.prog W 0 (fun _ => true) true fuel 45 cs = some x)
    (hsz : ∀ y ∈ x.1.weights Tryd.prog 45, y ≤ 140737488351232) : ∃ b o, ad = ⟨b, o, none⟩ ∧ ∃ t fa fc, TyAt W b o t fa fc ∧ t.fields.length ≤ fc := by
  obtain ⟨_, hlen, hcell⟩ := World.cells?_some hc
  obtain ⟨t, fa, fc, rfl, hF, hcp⟩ := open_cellsC hlen h hsz
  have h0 := hcell 0 (by omega)
  have hsp := World.cell?_spot h0
  obtain ⟨b, o, sp⟩ := ad
  have hsp2 : sp = none := by simpa [Addr.add] using hsp
  subst hsp2
  refine ⟨b, o, rfl, t, fa, fc, ⟨?_, ?_, ?_, ?_, ?_, hF⟩, hcp⟩
  · simpa [Addr.add_lit] using h0
  · simpa [Addr.add_lit] using hcell 1 (by omega)
  · simpa [Addr.add_lit] using hcell 2 (by omega)
  · simpa [Addr.add_lit] using hcell 3 (by omega)
  · simpa [Addr.add_lit] using hcell 4 (by omega)

theorem open_tableC {H : Type} {enc : TypeId × Value → H} {W : World} {fuel : Nat} {a : Option Addr} {n c : Nat} {d : DataW H} {ps : List MemPlace} (h : DataW.trod enc Tryd.prog W 0 (fun _ => true) true fuel 22 [.slice a n c] = some (d, ps))
    (hsz : ∀ y ∈ d.weights Tryd.prog 22, y ≤ 140737488351232) : ∃ ts : List Ty, TabC W a ts ∧ ts.length = n ∧ n ≤ c := by
  rcases DataW.trod_slice Tryd.underlying22 h with ⟨hcs, _⟩ | ⟨ad, len, cap, elems, rest, fu, rfl, hcs, hx, _, hlc, _, hel, hE, _, _⟩
  · simp at hcs
    obtain ⟨_, rfl, rfl⟩ := hcs
    exact ⟨[], ⟨⟨.inl rfl, by simp⟩, fun _ _ _ i hi => by simp at hi⟩, rfl, Nat.le_refl _⟩
  · simp only [List.cons.injEq, Value.slice.injEq, and_true] at hcs
    obtain ⟨rfl, rfl, rfl⟩ := hcs
    simp only [Prod.mk.injEq] at hx
    obtain ⟨rfl, _⟩ := hx
    have hw1 := hsz (((elems.map (·.1)).length + (rest.map (·.1)).length) * Tryd.prog.bytesOf 45) (by
      simp only [DataW.weights, Tryd.underlying22]; exact List.mem_cons_self)
    rw [bytes45] at hw1
    simp only [List.length_map] at hw1
    have hall : ∀ i, i < n → ∃ b o, ad.add (i * 5) = ⟨b, o, none⟩ ∧ ∃ t fa fc, TyAt W b o t fa fc ∧ t.fields.length ≤ fc := by
      intro i hi
      have he := hE i hi
      rw [cells45] at he
      have hlt : i < elems.length := by omega
      rw [List.getElem?_eq_getElem hlt] at he
      obtain ⟨cs, hc, ht⟩ := Option.bind_eq_some_iff.1 he
      refine open_tyC hc ht (fun y hy => hsz y ?_)
      simp only [DataW.weights, Tryd.underlying22]
      refine List.mem_cons_of_mem _ (List.mem_append.2 (.inl ?_))
      exact weightsAll_mem (List.mem_map.2 ⟨elems[i], List.getElem_mem hlt, rfl⟩) y hy
    by_cases h0 : n = 0
    · exact ⟨[], ⟨⟨.inl rfl, by simp⟩, fun _ _ _ i hi => by simp at hi⟩, by simp [h0], by omega⟩
    · obtain ⟨b, o, hb, _⟩ := hall 0 (by omega)
      obtain ⟨b', o', sp⟩ := ad
      have hsp : sp = none := by
        have := congrArg Addr.spot hb
        simpa [Addr.add] using this
      subst hsp
      obtain ⟨ts, hl, hp⟩ := pick_list zeroTy (fun i t => ∃ fa fc, TyAt W b' (o' + i * 5) t fa fc ∧ t.fields.length ≤ fc) n (fun i hi => by
        obtain ⟨b2, o2, hb2, t, fa, fc, ht⟩ := hall i hi
        rw [Addr.add_lit] at hb2
        simp only [Addr.mk.injEq, and_true] at hb2
        obtain ⟨rfl, rfl⟩ := hb2
        exact ⟨t, fa, fc, ht⟩)
      refine ⟨ts, ⟨⟨.inr ⟨b', o', rfl, fun i hi => ?_⟩, by omega⟩, fun b o hab i hi => ?_⟩, hl, hlc⟩
      · obtain ⟨fa, fc, h1, _⟩ := hp i (by omega)
        exact ⟨fa, fc, by simpa [tyAt] using h1⟩
      · simp only [Option.some.injEq, Addr.mk.injEq, and_true] at hab
        obtain ⟨rfl, rfl⟩ := hab
        obtain ⟨fa, fc, h1, h2⟩ := hp i (by omega)
        have h3 : TyAt W b' (o' + i * 5) (tyAt ts i) fa fc := by simpa [tyAt] using h1
        exact ⟨fa, fc, h3.c4, by simpa [tyAt] using h2⟩

set_option maxRecDepth 100000 in
/-- A value of the laws' own out of its reading. -/
theorem open_valueC {H : Type} {enc : TypeId × Value → H} {W : World} {base : Nat} {v : Value} {d : DataW H} {ps : List MemPlace} (hval : Value.okWide Tryd.prog W .any base 25 v) (h : DataW.Trod enc Tryd.prog W 0 (fun _ => true) true 25 v d ps)
    (hsz : ∀ y ∈ d.weights Tryd.prog 25, y ≤ 140737488351232) :
    ∃ ta tn tc t a n c, ∃ (ts : List Ty) (dep : Nat) (l : List Cl), v = .agg #[.slice ta tn tc, .int .i64 t, .slice a n c] ∧ TabC W ta ts ∧ ts.length = tn ∧ tn ≤ tc ∧ Cs dep W a l ∧ l.length = n ∧ n ≤ c := by
  obtain ⟨cs, rfl, hcs⟩ := okWide_struct Tryd.underlying25 hval
  rw [cells25] at hcs
  obtain ⟨fuel, h⟩ := h
  have h' : DataW.trod enc Tryd.prog W 0 (fun _ => true) true fuel 25 cs.toList = some (d, ps) := by simpa [Value.cells] using h
  obtain ⟨L, rfl⟩ : ∃ L : List Value, cs = L.toArray := ⟨cs.toList, by simp⟩
  obtain ⟨v0, v1, v2, rfl⟩ : ∃ v0 v1 v2, L = [v0, v1, v2] := by
    match L, (show L.length = 3 by simpa using hcs) with
    | [v0, v1, v2], _ => exact ⟨v0, v1, v2, rfl⟩
  obtain ⟨xs, k, rfl, hd, _, hxl, hf⟩ := DataW.trod_struct Tryd.underlying25 h'
  have f0 : DataW.trod enc Tryd.prog W 0 (fun _ => true) true k 22 (([v0, v1, v2].drop 0).take (Tryd.prog.cellsOf 22)) = xs[0]? := hf 0 _ rfl
  rw [cells22] at f0
  have f1 : DataW.trod enc Tryd.prog W 0 (fun _ => true) true k 3 (([v0, v1, v2].drop 1).take (Tryd.prog.cellsOf 3)) = xs[1]? := hf 1 _ rfl
  rw [cells3] at f1
  have f2 : DataW.trod enc Tryd.prog W 0 (fun _ => true) true k 23 (([v0, v1, v2].drop 2).take (Tryd.prog.cellsOf 23)) = xs[2]? := hf 2 _ rfl
  rw [cells23] at f2
  have hxl3 : xs.length = 3 := hxl
  obtain ⟨x0, x1, x2, rfl⟩ : ∃ x0 x1 x2, xs = [x0, x1, x2] := by
    match xs, hxl3 with
    | [x0, x1, x2], _ => exact ⟨x0, x1, x2, rfl⟩
  simp only [Prod.mk.injEq] at hd
  obtain ⟨rfl, _⟩ := hd
  obtain ⟨T, e1, rfl, w1⟩ := DataW.trod_int Tryd.underlying3 f1
  obtain rfl : v1 = .int .i64 T := by simpa using e1
  obtain ⟨ta, tn, tc, rfl⟩ : ∃ ba bn bc, v0 = .slice ba bn bc := by
    rcases DataW.trod_slice Tryd.underlying22 f0 with ⟨h1, _⟩ | ⟨_, _, _, _, _, _, _, h1, _⟩
    · exact ⟨_, _, _, by simpa using h1⟩
    · exact ⟨_, _, _, by simpa using h1⟩
  obtain ⟨a, n, c, rfl⟩ : ∃ ba bn bc, v2 = .slice ba bn bc := by
    rcases DataW.trod_slice Tryd.underlying23 f2 with ⟨h1, _⟩ | ⟨_, _, _, _, _, _, _, h1, _⟩
    · exact ⟨_, _, _, by simpa using h1⟩
    · exact ⟨_, _, _, by simpa using h1⟩
  have hs0 : ∀ y ∈ x0.1.weights Tryd.prog 22, y ≤ 140737488351232 := fun y hy => hsz y (by
    simp only [DataW.weights, Tryd.underlying25]
    exact DataW.weights_mem_each (ts := [22, 3, 23]) (j := 0) (t := 22) rfl rfl y hy)
  have hs2 : ∀ y ∈ x2.1.weights Tryd.prog 23, y ≤ 140737488351232 := fun y hy => hsz y (by
    simp only [DataW.weights, Tryd.underlying25]
    exact DataW.weights_mem_each (ts := [22, 3, 23]) (j := 2) (t := 23) rfl rfl y hy)
  obtain ⟨ts, hT, htn, htc⟩ := open_tableC (d := x0.1) (ps := x0.2) f0 hs0
  obtain ⟨l, hC, hn, hnc⟩ := open_tree k (d := x2.1) (ps := x2.2) f2 hs2
  exact ⟨ta, tn, tc, T, a, n, c, ts, k, l, rfl, hT, htn, htc, hC, hn, hnc⟩


end Go.Proofs.YtfabhhmeanpmhaaDoor
namespace Go.Proofs.YtfabhhmeanpmhaaDoor
open Go.ChangeShapes Go.WideShapes Go.ChangeAt Go.RowKit

theorem tp_of {W : World} (hL : laidMetH Tryd.prog [("heddle/types.partsOf", Rows.laid_heddle_types_partsOf), ("math/bits.deBruijn32tab", Rows.laid_math_bits_deBruijn32tab), ("math/bits.deBruijn64tab", Rows.laid_math_bits_deBruijn64tab), ("internal/strconv.uint64pow10", Rows.laid_internal_strconv_uint64pow10)] W) : Lib.TabIs Tryd.prog W "internal/strconv.uint64pow10" .u64 Lib.pow10Tab := by
  rw [MakeChecks.laidMetH_plain _ _ _ (by kernel_rfl)] at hL
  obtain ⟨g, t, cs, fuel, p, hg, hty, hvar, hd⟩ := Lib.laidMet.reads hL (.tail _ (.tail _ (.tail _ (.head _))))
  obtain ⟨n, hn⟩ : ∃ n, Tryd.prog.globalNamed "internal/strconv.uint64pow10" = some n := ⟨g, hg⟩
  obtain rfl := Option.some.inj (hn.symm.trans hg)
  have hty2 : t = 124 := by
    have h3 : Tryd.prog.globalNamed "internal/strconv.uint64pow10" = some 1 := by kernel_rfl
    obtain rfl := Option.some.inj (h3.symm.trans hg)
    exact (Option.some.inj ((show (Tryd.prog.globals[1]?).map (·.type) = some 124 by kernel_rfl).symm.trans hty)).symm
  subst hty2
  have hcs : cs.toList = Lib.pow10Tab.map (Value.int .u64) := Lib.cells_of_tab (k := .u64) (zs := Lib.pow10Tab) Tryd.underlying124 Tryd.underlying47 cells47 (by kernel_rfl) hd
  unfold Lib.TabIs
  rw [hvar, ← hcs]
end Go.Proofs.YtfabhhmeanpmhaaDoor
namespace Go.Proofs.YtfabhhmeanpmhaaDoor.cellsKeeps
open Go.ChangeShapes Go.WideShapes Go.ChangeAt Go.RowKit

set_option maxRecDepth 100000 in
theorem lifted (os : Go.Os) (started : os.Started) (H : Type) (enc : TypeId × Value → H) :
    ReturnsInHanded {} Tryd.checked os 7 .any (fun w args => (Rows.cellsKeepsSpec.pre enc Tryd.prog Tryd.f7 [] false w args ∧ laidMetH Tryd.prog [("heddle/types.partsOf", Rows.laid_heddle_types_partsOf), ("math/bits.deBruijn32tab", Rows.laid_math_bits_deBruijn32tab), ("math/bits.deBruijn64tab", Rows.laid_math_bits_deBruijn64tab), ("internal/strconv.uint64pow10", Rows.laid_internal_strconv_uint64pow10)] w) ∧ sizedMet enc Tryd.prog Tryd.f7 (OpenSpec.ofChange Rows.cellsKeepsSpec) false w args)
      (Rows.cellsKeepsSpec.post enc Tryd.prog Tryd.f7 false true false false) := by
  refine returnsInHanded_of_change_and (C := Tryd.checked) (X := fun w _ => laidMetH Tryd.prog [("heddle/types.partsOf", Rows.laid_heddle_types_partsOf), ("math/bits.deBruijn32tab", Rows.laid_math_bits_deBruijn32tab), ("math/bits.deBruijn64tab", Rows.laid_math_bits_deBruijn64tab), ("internal/strconv.uint64pow10", Rows.laid_internal_strconv_uint64pow10)] w) (fun _ _ _ hh h => h.of_heap hh) own started (by kernel_rfl) Tryd.func7
    (ChangeSpec.witness_shaped (enc := enc) (C := Tryd.checked) (os := os) (X := fun w _ => laidMetH Tryd.prog [("heddle/types.partsOf", Rows.laid_heddle_types_partsOf), ("math/bits.deBruijn32tab", Rows.laid_math_bits_deBruijn32tab), ("math/bits.deBruijn64tab", Rows.laid_math_bits_deBruijn64tab), ("internal/strconv.uint64pow10", Rows.laid_internal_strconv_uint64pow10)] w) false (World.laidAll Tryd.prog os [("heddle/types.partsOf", Rows.laid_heddle_types_partsOf), ("math/bits.deBruijn32tab", Rows.laid_math_bits_deBruijn32tab), ("math/bits.deBruijn64tab", Rows.laid_math_bits_deBruijn64tab), ("internal/strconv.uint64pow10", Rows.laid_internal_strconv_uint64pow10)]) #[.agg #[.slice none 0 0, .int .i64 0, .slice none 0 0], .int .i64 0] 8 (World.laidAll_os _ _ _)
      (World.shaped_of_ZipB (by kernel_rfl) (by kernel_rfl)) (by kernel_rfl) (by kernel_rfl) (by kernel_rfl)
      (by rw [MakeChecks.laidMetH_plain _ _ _ (by kernel_rfl)]; exact laidMet_laidAll _ (by kernel_rfl) (by kernel_rfl))) ?_
  intro W base args ds gs before hval0 hW _ hsz0 hL _
  have hval : ∀ (j : Nat) t v, Tryd.f7.params[j]? = some t → args[j]? = some v → Value.okWide Tryd.prog W .any base t v := hval0
  have hW' := hW
  obtain ⟨p, q, hA0, hV, rfl, hfz, hnd⟩ := hW
  have hA : DataW.TrodAll enc Tryd.prog W 0 (fun _ => true) true Tryd.f7.params.toList args.toList ds p := hA0
  rw [Tryd.params7] at hA hval
  obtain ⟨v0, vs0, d0, ds0, p0, q0, hargs, rfl, rfl, h0, r0⟩ := trodAll_cons hA
  obtain ⟨v1, vs1, d1, ds1, p1, q1, rfl, rfl, rfl, h1, r1⟩ := trodAll_cons r0
  obtain ⟨rfl, rfl, rfl⟩ := trodAll_nil r1
  obtain rfl : args = #[v0, v1] := by cases args; simp_all
  obtain ⟨rfl, rfl⟩ := trodVars_none hV
  obtain ⟨a1, rfl, rfl, rfl, w1⟩ := open_int Tryd.underlying3 (hval 1 3 v1 rfl rfl) h1
  have k0 := h0
  have lt0 : ∀ x ∈ p0, x.block < W.heap.size := by obtain ⟨m, hm⟩ := k0; exact DataW.trod_lt m _ _ _ hm
  have hsz : (DataW.weightsEach Tryd.prog [25, 3] [d0, _]).all (· ≤ reachBytes) = true := hsz0
  have hw0 : ∀ y ∈ d0.weights Tryd.prog 25, y ≤ 140737488351232 := by
    intro y hy
    have := List.all_eq_true.1 hsz y (DataW.weights_mem_each (j := 0) (t := 25) rfl rfl y hy)
    have h2 := of_decide_eq_true this
    simpa [reachBytes] using h2
  obtain ⟨ta0, tn0, tc0, tt0, va0, vn0, vc0, ts0, dv0, l0, rfl, hT0, htn0, htc0, hCC0, hn0, hnc0⟩ := open_valueC (hval 0 25 v0 rfl rfl) h0 hw0
  have hC0 := hCC0.mono (show dv0 ≤ dv0 + 1 by omega)
  subst hn0
  clear hA0 hval0
  refine (keepsWalk ts0 ta0 tn0 tc0 htn0 htc0 dv0 tt0 a1 va0 l0 vc0 W hC0 hT0 (gl_of hL) (tp_of hL)).mono fun e W' ⟨he, hext⟩ => ?_
  subst he
  have bel := hext.below
  exact ⟨_, rfl, _, _, _, [], _, [], hW', trodAll_mk1 (shut_bool Tryd.underlying4 _), (trodAll_cons_mk (Below.trod laidOut (by kernel_rfl) (of_decide_eq_true (by kernel_rfl)) k0 bel lt0) (trodAll_cons_mk (shut_int Tryd.underlying3 w1) trodAll_mk0)), rfl, bel.frame _, fun h => by cases h⟩

theorem over : Rows.cellsKeepsRow.holds Tryd.pinned (OpenSpec.ofChange Rows.cellsKeepsSpec) :=
  OpenClaim.holds_of_wide 7 Tryd.f7 rfl rfl rfl rfl rfl rfl rfl ⟨rfl, rfl, rfl, rfl, rfl⟩ rfl rfl rfl rfl rfl (by kernel_rfl) Tryd.func7 (by kernel_rfl)
    (of_decide_eq_true (by kernel_rfl)) (by unfold Func.isWrapper; first | (rw [if_pos (by decide +kernel)]; kernel_rfl) | (rw [if_neg (by decide +kernel)]; exact ⟨rfl, rfl⟩))
    (fun os started H enc _ => lifted os started H enc)

theorem card : Rows.CellsKeepsCardSaid :=
  Claim7.holds_tied_plain_at .later [] [.data, .data, .data, .data] true (true, "dd4b8a091b4000614f105e80044fe5e5edd4f30f36025abb3ac9e76e79748915") false over (fun _ h => by cases h) (by kernel_rfl) (fun _ h => by cases h) cellsKeeps_row_tie rfl ⟨rfl, rfl⟩ (by kernel_rfl) rfl
    (fun f fn hf hfn => by
      obtain rfl : f = 7 := Option.some.inj ((show Tryd.prog.funcNamed "heddle/heddlelaw03.CellsKeeps" = some 7 by kernel_rfl).symm.trans hf) |>.symm
      obtain rfl : fn = Tryd.f7 := (Option.some.inj (Tryd.func7.symm.trans hfn)).symm
      exact ⟨by kernel_rfl, fun j t ht => by
        rw [Tryd.params7] at ht
        have hm : t ∈ [25, 3] := by simpa using Array.mem_of_getElem? ht
        have hall : ([25, 3].all fun u => !Tryd.prog.wantsStandIn u) = true := by kernel_rfl
        exact (show Tryd.prog.wantsStandIn t = false by simpa using List.all_eq_true.1 hall t hm)⟩)
    (by kernel_rfl)

end Go.Proofs.YtfabhhmeanpmhaaDoor.cellsKeeps

namespace Go.Proofs.YtfabhhmeanpmhaaDoor
theorem cellsKeeps_holds : Rows.CellsKeepsCardSaid := cellsKeeps.card
#print axioms cellsKeeps_holds
end Go.Proofs.YtfabhhmeanpmhaaDoor
