/-
  TOpen, MOpen: joined by program; no statement is proved here.
-/
import Derived.Test.YtbpjmcjjambdkaaGreatDoorZAD
import Derived.OpenShut
import Derived.ShutString
import Derived.ChangeOld
import Derived.SizedLaws
import Derived.Lib.LaidU8
import Derived.Lay
import Derived.MakeChecks
import Derived.Handed
import Derived.Test.YtbpjmcjjambdkaaGreatDoorZAM
import Derived.Test.YtbpjmcjjambdkaaGreatDoorZAL
/-
  What a walk is told of a table that came in, and of the program's own table of parts; no statement is proved here.
-/
namespace Go.Proofs.YtbpjmcjjambdkaaGreatDoor.Ty
open Go.ChangeShapes Go.WideShapes Go.ChangeAt Go.RowKit

theorem own : ownKnob Tryz.prog.godebug = none := by kernel_rfl
theorem laidOut : laidOutB Tryz.prog = true := by kernel_rfl

theorem weightsAll_mem {H : Type} {P : Program} {e : TypeId} : ∀ {l : List (DataW H)} {d : DataW H}, d ∈ l → ∀ n ∈ d.weights P e, n ∈ DataW.weightsAll P e l
  | x :: r, d, h, n, hn => by
    unfold DataW.weightsAll
    rcases List.mem_cons.1 h with rfl | h
    · exact List.mem_append.2 (.inl hn)
    · exact List.mem_append.2 (.inr (weightsAll_mem h n hn))

theorem bytes3 : Tryz.prog.bytesOf 3 = 8 := by kernel_rfl
theorem bytes56 : Tryz.prog.bytesOf 56 = 56 := by kernel_rfl
theorem cells56 : Tryz.prog.cellsOf 56 = 5 := by kernel_rfl
theorem cells3 : Tryz.prog.cellsOf 3 = 1 := by kernel_rfl
theorem cells29 : Tryz.prog.cellsOf 29 = 1 := by kernel_rfl

set_option maxRecDepth 100000 in
/-- A type out of its reading. -/
theorem open_cells {H : Type} {enc : TypeId × Value → H} {W : World} {fuel : Nat} {cs : List Value} {x : DataW H × List MemPlace} (hlen : cs.length = 5) (h : DataW.trod enc Tryz.prog W 0 (fun _ => true) true fuel 56 cs = some x)
    (hsz : ∀ y ∈ x.1.weights Tryz.prog 56, y ≤ 140737488351232) : ∃ t fa fc, cs = [.int .i64 t.kind, .int .i64 t.elem, .int .i64 t.key, .int .i64 t.len, .slice fa t.fields.length fc] ∧ FOk W t fa := by
  obtain ⟨v0, v1, v2, v3, v4, rfl⟩ : ∃ v0 v1 v2 v3 v4, cs = [v0, v1, v2, v3, v4] := by
    match cs, hlen with
    | [v0, v1, v2, v3, v4], _ => exact ⟨v0, v1, v2, v3, v4, rfl⟩
  obtain ⟨xs, n, rfl, rfl, _, hxl, hf⟩ := DataW.trod_struct Tryz.underlying56 h
  have f0 : DataW.trod enc Tryz.prog W 0 (fun _ => true) true n 3 (([v0, v1, v2, v3, v4].drop 0).take (Tryz.prog.cellsOf 3)) = xs[0]? := hf 0 _ rfl
  rw [cells3] at f0
  have f1 : DataW.trod enc Tryz.prog W 0 (fun _ => true) true n 3 (([v0, v1, v2, v3, v4].drop 1).take (Tryz.prog.cellsOf 3)) = xs[1]? := hf 1 _ rfl
  rw [cells3] at f1
  have f2 : DataW.trod enc Tryz.prog W 0 (fun _ => true) true n 3 (([v0, v1, v2, v3, v4].drop 2).take (Tryz.prog.cellsOf 3)) = xs[2]? := hf 2 _ rfl
  rw [cells3] at f2
  have f3 : DataW.trod enc Tryz.prog W 0 (fun _ => true) true n 3 (([v0, v1, v2, v3, v4].drop 3).take (Tryz.prog.cellsOf 3)) = xs[3]? := hf 3 _ rfl
  rw [cells3] at f3
  have f4 : DataW.trod enc Tryz.prog W 0 (fun _ => true) true n 29 (([v0, v1, v2, v3, v4].drop 4).take (Tryz.prog.cellsOf 29)) = xs[4]? := hf 4 _ rfl
  rw [cells29] at f4
  have hxl5 : xs.length = 5 := hxl
  obtain ⟨x0, x1, x2, x3, x4, rfl⟩ : ∃ x0 x1 x2 x3 x4, xs = [x0, x1, x2, x3, x4] := by
    match xs, hxl5 with
    | [x0, x1, x2, x3, x4], _ => exact ⟨x0, x1, x2, x3, x4, rfl⟩
  obtain ⟨K, e0, rfl, w0⟩ := DataW.trod_int Tryz.underlying3 f0
  obtain ⟨A, e1, rfl, w1⟩ := DataW.trod_int Tryz.underlying3 f1
  obtain ⟨N, e2, rfl, w2⟩ := DataW.trod_int Tryz.underlying3 f2
  obtain ⟨F, e3, rfl, w3⟩ := DataW.trod_int Tryz.underlying3 f3
  obtain rfl : v0 = .int .i64 K := by simpa using e0
  obtain rfl : v1 = .int .i64 A := by simpa using e1
  obtain rfl : v2 = .int .i64 N := by simpa using e2
  obtain rfl : v3 = .int .i64 F := by simpa using e3
  rcases open_ints Tryz.underlying29 Tryz.underlying3 cells3 f4 with ⟨hcs, _⟩ | ⟨q, l, c, zs, hcs, _, hl, hm, hz, hx, hcl, hwz⟩
  · obtain rfl : v4 = .slice none 0 0 := by simpa using hcs
    exact ⟨⟨K, A, N, F, []⟩, none, 0, rfl, .inl rfl, by simp⟩
  · obtain rfl : v4 = .slice (some q) l c := by simpa using hcs
    simp only [if_true] at hz
    have hlen2 : (zs.take l).length = l := by simp; omega
    subst hx
    have := hsz (((lits (H := H) .i64 (zs.take l)).length + (lits (H := H) .i64 (zs.drop l)).length) * Tryz.prog.bytesOf 3) (by
      simp only [DataW.weights, Tryz.underlying56]
      refine DataW.weights_mem_each (ts := [3, 3, 3, 3, 29]) (j := 4) (t := 29) rfl rfl _ ?_
      simp only [DataW.weights, Tryz.underlying29]
      exact List.mem_cons_self)
    rw [bytes3] at this
    simp only [lits, List.length_map, List.length_take, List.length_drop] at this
    refine ⟨⟨K, A, N, F, zs.take l⟩, some q, c, by simp only [hlen2], ?_, by simp only [hlen2]; omega⟩
    by_cases h0 : l = 0
    · left; simp [h0]
    · right
      obtain ⟨b, o, rfl, hc2⟩ := ints_at hcl (by omega)
      refine ⟨b, o, rfl, fun j hj => ?_⟩
      simp only [List.length_map, hlen2] at hj
      have hj2 : j < zs.length := by omega
      rw [hc2 j hj2]
      simp [List.getD, hj, hj2]

theorem open_ty {H : Type} {enc : TypeId × Value → H} {W : World} {fuel : Nat} {ad : Addr} {cs : List Value} {x : DataW H × List MemPlace} (hc : W.cells? 0 ad 5 = some cs) (h : DataW.trod enc Tryz.prog W 0 (fun _ => true) true fuel 56 cs = some x)
    (hsz : ∀ y ∈ x.1.weights Tryz.prog 56, y ≤ 140737488351232) : ∃ b o, ad = ⟨b, o, none⟩ ∧ ∃ t fa fc, TyAt W b o t fa fc := by
  obtain ⟨_, hlen, hcell⟩ := World.cells?_some hc
  obtain ⟨t, fa, fc, rfl, hF⟩ := open_cells hlen h hsz
  have h0 := hcell 0 (by omega)
  have hsp := World.cell?_spot h0
  obtain ⟨b, o, sp⟩ := ad
  have hsp2 : sp = none := by simpa [Addr.add] using hsp
  subst hsp2
  refine ⟨b, o, rfl, t, fa, fc, ?_, ?_, ?_, ?_, ?_, hF⟩
  · simpa [Addr.add_lit] using h0
  · simpa [Addr.add_lit] using hcell 1 (by omega)
  · simpa [Addr.add_lit] using hcell 2 (by omega)
  · simpa [Addr.add_lit] using hcell 3 (by omega)
  · simpa [Addr.add_lit] using hcell 4 (by omega)

theorem pick_list {α : Type} (d : α) (p : Nat → α → Prop) : ∀ n, (∀ i, i < n → ∃ x, p i x) → ∃ l : List α, l.length = n ∧ ∀ i, i < n → p i (l.getD i d)
  | 0, _ => ⟨[], rfl, fun i hi => by omega⟩
  | n + 1, h => by
    obtain ⟨l, h1, h2⟩ := pick_list d p n (fun i hi => h i (by omega))
    obtain ⟨x, hx⟩ := h n (by omega)
    refine ⟨l ++ [x], by simp [h1], fun i hi => ?_⟩
    by_cases e : i = n
    · subst e; simpa [List.getD, ← h1] using hx
    · have := h2 i (by omega)
      simpa [List.getD, List.getElem?_append_left (show i < l.length by omega)] using this

theorem open_table {H : Type} {enc : TypeId × Value → H} {W : World} {fuel : Nat} {a : Option Addr} {n c : Nat} {d : DataW H} {ps : List MemPlace} (h : DataW.trod enc Tryz.prog W 0 (fun _ => true) true fuel 25 [.slice a n c] = some (d, ps))
    (hsz : ∀ y ∈ d.weights Tryz.prog 25, y ≤ 140737488351232) : ∃ ts : List Ty, Tab W a ts ∧ ts.length = n ∧ n ≤ c := by
  rcases DataW.trod_slice Tryz.underlying25 h with ⟨hcs, _⟩ | ⟨ad, len, cap, elems, rest, fu, rfl, hcs, hx, _, hlc, _, hel, hE, _, _⟩
  · simp at hcs
    obtain ⟨_, rfl, rfl⟩ := hcs
    exact ⟨[], ⟨.inl rfl, by simp⟩, rfl, Nat.le_refl _⟩
  · simp only [List.cons.injEq, Value.slice.injEq, and_true] at hcs
    obtain ⟨rfl, rfl, rfl⟩ := hcs
    simp only [Prod.mk.injEq] at hx
    obtain ⟨rfl, _⟩ := hx
    have hw1 := hsz (((elems.map (·.1)).length + (rest.map (·.1)).length) * Tryz.prog.bytesOf 56) (by
      simp only [DataW.weights, Tryz.underlying25]; exact List.mem_cons_self)
    rw [bytes56] at hw1
    simp only [List.length_map] at hw1
    have hall : ∀ i, i < n → ∃ b o, ad.add (i * 5) = ⟨b, o, none⟩ ∧ ∃ t fa fc, TyAt W b o t fa fc := by
      intro i hi
      have he := hE i hi
      rw [cells56] at he
      have hlt : i < elems.length := by omega
      rw [List.getElem?_eq_getElem hlt] at he
      obtain ⟨cs, hc, ht⟩ := Option.bind_eq_some_iff.1 he
      refine open_ty hc ht (fun y hy => hsz y ?_)
      simp only [DataW.weights, Tryz.underlying25]
      refine List.mem_cons_of_mem _ (List.mem_append.2 (.inl ?_))
      exact weightsAll_mem (List.mem_map.2 ⟨elems[i], List.getElem_mem hlt, rfl⟩) y hy
    by_cases h0 : n = 0
    · exact ⟨[], ⟨.inl rfl, by simp⟩, by simp [h0], by omega⟩
    · obtain ⟨b, o, hb, _⟩ := hall 0 (by omega)
      obtain ⟨b', o', sp⟩ := ad
      have hsp : sp = none := by
        have := congrArg Addr.spot hb
        simpa [Addr.add] using this
      subst hsp
      obtain ⟨ts, hl, hp⟩ := pick_list zeroTy (fun i t => ∃ fa fc, TyAt W b' (o' + i * 5) t fa fc) n (fun i hi => by
        obtain ⟨b2, o2, hb2, t, fa, fc, ht⟩ := hall i hi
        rw [Addr.add_lit] at hb2
        simp only [Addr.mk.injEq, and_true] at hb2
        obtain ⟨rfl, rfl⟩ := hb2
        exact ⟨t, fa, fc, ht⟩)
      refine ⟨ts, ⟨.inr ⟨b', o', rfl, fun i hi => ?_⟩, by omega⟩, hl, hlc⟩
      have := hp i (by omega)
      simpa [tyAt] using this


theorem bytes89 : Tryz.prog.bytesOf 89 = 56 := by kernel_rfl
theorem cells89 : Tryz.prog.cellsOf 89 = 4 := by kernel_rfl
theorem cells44 : Tryz.prog.cellsOf 44 = 1 := by kernel_rfl
theorem cells9 : Tryz.prog.cellsOf 9 = 1 := by kernel_rfl
theorem cells26 : Tryz.prog.cellsOf 26 = 1 := by kernel_rfl
theorem cells25 : Tryz.prog.cellsOf 25 = 1 := by kernel_rfl

set_option maxRecDepth 100000 in
/-- A list of cells out of its reading. -/
theorem open_tree {H : Type} {enc : TypeId × Value → H} {W : World} : ∀ (fuel : Nat) {a : Option Addr} {n c : Nat} {d : DataW H} {ps : List MemPlace}, DataW.trod enc Tryz.prog W 0 (fun _ => true) true fuel 26 [.slice a n c] = some (d, ps) →
    (∀ y ∈ d.weights Tryz.prog 26, y ≤ 140737488351232) → ∃ l : List Cl, Cs fuel W a l ∧ l.length = n ∧ n ≤ c := by
  intro fuel
  induction fuel using Nat.strongRecOn with
  | _ fuel ih =>
  intro a n c d ps h hsz
  rcases DataW.trod_slice Tryz.underlying26 h with ⟨hcs, _⟩ | ⟨ad, len, cap, elems, rest, fu, rfl, hcs, hx, _, hlc, _, hel, hE, _, _⟩
  · simp at hcs
    obtain ⟨_, rfl, rfl⟩ := hcs
    exact ⟨[], Cs.nil _ _ _, rfl, Nat.le_refl _⟩
  · simp only [List.cons.injEq, Value.slice.injEq, and_true] at hcs
    obtain ⟨rfl, rfl, rfl⟩ := hcs
    simp only [Prod.mk.injEq] at hx
    obtain ⟨rfl, _⟩ := hx
    have hw1 := hsz (((elems.map (·.1)).length + (rest.map (·.1)).length) * Tryz.prog.bytesOf 89) (by
      simp only [DataW.weights, Tryz.underlying26]; exact List.mem_cons_self)
    rw [bytes89] at hw1
    simp only [List.length_map] at hw1
    have hall : ∀ i, i < n → ∃ b o, ad.add (i * 4) = ⟨b, o, none⟩ ∧ ∃ x ba bc, ClAt W b o x ba bc ∧ Cs fu W ba x.box := by
      intro i hi
      have he := hE i hi
      rw [cells89] at he
      have hlt : i < elems.length := by omega
      rw [List.getElem?_eq_getElem hlt] at he
      obtain ⟨cs, hc, ht⟩ := Option.bind_eq_some_iff.1 he
      have hsx : ∀ y ∈ elems[i].1.weights Tryz.prog 89, y ≤ 140737488351232 := fun y hy => hsz y (by
        simp only [DataW.weights, Tryz.underlying26]
        refine List.mem_cons_of_mem _ (List.mem_append.2 (.inl ?_))
        exact weightsAll_mem (List.mem_map.2 ⟨elems[i], List.getElem_mem hlt, rfl⟩) y hy)
      obtain ⟨_, hlen, hcell⟩ := World.cells?_some hc
      generalize elems[i] = el at *
      clear he hE hc
      generalize ad.add (i * 4) = ad2 at *
      obtain ⟨v0, v1, v2, v3, rfl⟩ : ∃ v0 v1 v2 v3, cs = [v0, v1, v2, v3] := by
        match cs, hlen with
        | [v0, v1, v2, v3], _ => exact ⟨v0, v1, v2, v3, rfl⟩
      obtain ⟨xs, k, rfl, rfl, _, hxl, hf⟩ := DataW.trod_struct Tryz.underlying89 ht
      have f0 : DataW.trod enc Tryz.prog W 0 (fun _ => true) true k 44 (([v0, v1, v2, v3].drop 0).take (Tryz.prog.cellsOf 44)) = xs[0]? := hf 0 _ rfl
      rw [cells44] at f0
      have f1 : DataW.trod enc Tryz.prog W 0 (fun _ => true) true k 9 (([v0, v1, v2, v3].drop 1).take (Tryz.prog.cellsOf 9)) = xs[1]? := hf 1 _ rfl
      rw [cells9] at f1
      have f2 : DataW.trod enc Tryz.prog W 0 (fun _ => true) true k 3 (([v0, v1, v2, v3].drop 2).take (Tryz.prog.cellsOf 3)) = xs[2]? := hf 2 _ rfl
      rw [cells3] at f2
      have f3 : DataW.trod enc Tryz.prog W 0 (fun _ => true) true k 26 (([v0, v1, v2, v3].drop 3).take (Tryz.prog.cellsOf 26)) = xs[3]? := hf 3 _ rfl
      rw [cells26] at f3
      have hxl4 : xs.length = 4 := hxl
      obtain ⟨x0, x1, x2, x3, rfl⟩ : ∃ x0 x1 x2 x3, xs = [x0, x1, x2, x3] := by
        match xs, hxl4 with
        | [x0, x1, x2, x3], _ => exact ⟨x0, x1, x2, x3, rfl⟩
      obtain ⟨K, e0, rfl, w0⟩ := DataW.trod_int Tryz.underlying44 f0
      obtain ⟨S, e1, rfl, w1⟩ := DataW.trod_string Tryz.underlying9 f1
      obtain ⟨T, e2, rfl, w2⟩ := DataW.trod_int Tryz.underlying3 f2
      obtain rfl : v0 = .int .u64 K := by simpa using e0
      obtain rfl : v1 = .string S := by simpa using e1
      obtain rfl : v2 = .int .i64 T := by simpa using e2
      have hs3 : ∀ y ∈ x3.1.weights Tryz.prog 26, y ≤ 140737488351232 := fun y hy => hsx y (by
        simp only [DataW.weights, Tryz.underlying89]
        exact DataW.weights_mem_each (ts := [44, 9, 3, 26]) (j := 3) (t := 26) rfl rfl y hy)
      have hs1 : S.size ≤ 140737488351232 := by
        have := hsx S.data.toList.length (by
          simp only [DataW.weights, Tryz.underlying89]
          exact DataW.weights_mem_each (ts := [44, 9, 3, 26]) (j := 1) (t := 9) (d := .lit (.string S.data.toList)) rfl rfl _ (by simp [DataW.weights]))
        simpa using this
      obtain ⟨ba, bn, bc, rfl⟩ : ∃ ba bn bc, v3 = .slice ba bn bc := by
        rcases DataW.trod_slice Tryz.underlying26 f3 with ⟨h1, _⟩ | ⟨_, _, _, _, _, _, _, h1, _⟩
        · exact ⟨_, _, _, by simpa using h1⟩
        · exact ⟨_, _, _, by simpa using h1⟩
      obtain ⟨bl, hb1, hb2, hb3⟩ := ih k (by omega) (d := x3.1) (ps := x3.2) f3 hs3
      subst hb2
      have h0 := hcell 0 (by omega)
      have hsp := World.cell?_spot h0
      obtain ⟨b, o, sp⟩ := ad2
      have hsp2 : sp = none := by simpa [Addr.add] using hsp
      subst hsp2
      refine ⟨b, o, rfl, .mk K S T bl, ba, bc, ⟨?_, ?_, ?_, ?_, hb3, ?_, ?_, hs1⟩, hb1.mono (by omega)⟩
      · show W.cell? _ = some (.int .u64 K); simpa [Addr.add_lit] using h0
      · show W.cell? _ = some (.string S); simpa [Addr.add_lit] using hcell 1 (by omega)
      · show W.cell? _ = some (.int .i64 T); simpa [Addr.add_lit] using hcell 2 (by omega)
      · show W.cell? _ = some (.slice ba bl.length bc); simpa [Addr.add_lit] using hcell 3 (by omega)
      · show 0 ≤ K ∧ K < 18446744073709551616
        have w0' : IntKind.u64.min ≤ K ∧ K ≤ IntKind.u64.max := by simpa [Lit.wf] using w0
        have m1 : IntKind.u64.min = 0 := by decide
        have m2 : IntKind.u64.max = 18446744073709551615 := by decide
        omega
      · show -9223372036854775808 ≤ T ∧ T < 9223372036854775808
        have w2' : IntKind.i64.min ≤ T ∧ T ≤ 9223372036854775807 := by simpa [Lit.wf] using w2
        have m1 : IntKind.i64.min = -9223372036854775808 := by decide
        omega
    by_cases h0 : n = 0
    · exact ⟨[], Cs.nil _ _ _, by simp [h0], by omega⟩
    · obtain ⟨b, o, hb, _⟩ := hall 0 (by omega)
      obtain ⟨b', o', sp⟩ := ad
      have hsp : sp = none := by
        have := congrArg Addr.spot hb
        simpa [Addr.add] using this
      subst hsp
      obtain ⟨l, hl, hp⟩ := pick_list zeroCl (fun i x => ∃ ba bc, ClAt W b' (o' + i * 4) x ba bc ∧ Cs fu W ba x.box) n (fun i hi => by
        obtain ⟨b2, o2, hb2, x, ba, bc, ht⟩ := hall i hi
        rw [Addr.add_lit] at hb2
        simp only [Addr.mk.injEq, and_true] at hb2
        obtain ⟨rfl, rfl⟩ := hb2
        exact ⟨x, ba, bc, ht⟩)
      exact ⟨l, ⟨by omega, .inr ⟨b', o', rfl, fun i hi => hp i (by omega)⟩⟩, hl, hlc⟩

theorem cells28 : Tryz.prog.cellsOf 28 = 3 := by kernel_rfl

set_option maxRecDepth 100000 in
/-- A value of the laws' own out of its reading. -/
theorem open_value {H : Type} {enc : TypeId × Value → H} {W : World} {base : Nat} {v : Value} {d : DataW H} {ps : List MemPlace} (hval : Value.okWide Tryz.prog W .any base 28 v) (h : DataW.Trod enc Tryz.prog W 0 (fun _ => true) true 28 v d ps)
    (hsz : ∀ y ∈ d.weights Tryz.prog 28, y ≤ 140737488351232) :
    ∃ ta tn tc t a n c, ∃ (ts : List Ty) (dep : Nat) (l : List Cl), v = .agg #[.slice ta tn tc, .int .i64 t, .slice a n c] ∧ Tab W ta ts ∧ ts.length = tn ∧ tn ≤ tc ∧ Cs dep W a l ∧ l.length = n ∧ n ≤ c := by
  obtain ⟨cs, rfl, hcs⟩ := okWide_struct Tryz.underlying28 hval
  rw [cells28] at hcs
  obtain ⟨fuel, h⟩ := h
  have h' : DataW.trod enc Tryz.prog W 0 (fun _ => true) true fuel 28 cs.toList = some (d, ps) := by simpa [Value.cells] using h
  obtain ⟨L, rfl⟩ : ∃ L : List Value, cs = L.toArray := ⟨cs.toList, by simp⟩
  obtain ⟨v0, v1, v2, rfl⟩ : ∃ v0 v1 v2, L = [v0, v1, v2] := by
    match L, (show L.length = 3 by simpa using hcs) with
    | [v0, v1, v2], _ => exact ⟨v0, v1, v2, rfl⟩
  obtain ⟨xs, k, rfl, hd, _, hxl, hf⟩ := DataW.trod_struct Tryz.underlying28 h'
  have f0 : DataW.trod enc Tryz.prog W 0 (fun _ => true) true k 25 (([v0, v1, v2].drop 0).take (Tryz.prog.cellsOf 25)) = xs[0]? := hf 0 _ rfl
  rw [cells25] at f0
  have f1 : DataW.trod enc Tryz.prog W 0 (fun _ => true) true k 3 (([v0, v1, v2].drop 1).take (Tryz.prog.cellsOf 3)) = xs[1]? := hf 1 _ rfl
  rw [cells3] at f1
  have f2 : DataW.trod enc Tryz.prog W 0 (fun _ => true) true k 26 (([v0, v1, v2].drop 2).take (Tryz.prog.cellsOf 26)) = xs[2]? := hf 2 _ rfl
  rw [cells26] at f2
  have hxl3 : xs.length = 3 := hxl
  obtain ⟨x0, x1, x2, rfl⟩ : ∃ x0 x1 x2, xs = [x0, x1, x2] := by
    match xs, hxl3 with
    | [x0, x1, x2], _ => exact ⟨x0, x1, x2, rfl⟩
  simp only [Prod.mk.injEq] at hd
  obtain ⟨rfl, _⟩ := hd
  obtain ⟨T, e1, rfl, w1⟩ := DataW.trod_int Tryz.underlying3 f1
  obtain rfl : v1 = .int .i64 T := by simpa using e1
  obtain ⟨ta, tn, tc, rfl⟩ : ∃ ba bn bc, v0 = .slice ba bn bc := by
    rcases DataW.trod_slice Tryz.underlying25 f0 with ⟨h1, _⟩ | ⟨_, _, _, _, _, _, _, h1, _⟩
    · exact ⟨_, _, _, by simpa using h1⟩
    · exact ⟨_, _, _, by simpa using h1⟩
  obtain ⟨a, n, c, rfl⟩ : ∃ ba bn bc, v2 = .slice ba bn bc := by
    rcases DataW.trod_slice Tryz.underlying26 f2 with ⟨h1, _⟩ | ⟨_, _, _, _, _, _, _, h1, _⟩
    · exact ⟨_, _, _, by simpa using h1⟩
    · exact ⟨_, _, _, by simpa using h1⟩
  have hs0 : ∀ y ∈ x0.1.weights Tryz.prog 25, y ≤ 140737488351232 := fun y hy => hsz y (by
    simp only [DataW.weights, Tryz.underlying28]
    exact DataW.weights_mem_each (ts := [25, 3, 26]) (j := 0) (t := 25) rfl rfl y hy)
  have hs2 : ∀ y ∈ x2.1.weights Tryz.prog 26, y ≤ 140737488351232 := fun y hy => hsz y (by
    simp only [DataW.weights, Tryz.underlying28]
    exact DataW.weights_mem_each (ts := [25, 3, 26]) (j := 2) (t := 26) rfl rfl y hy)
  obtain ⟨ts, hT, htn, htc⟩ := open_table (d := x0.1) (ps := x0.2) f0 hs0
  obtain ⟨l, hC, hn, hnc⟩ := open_tree k (d := x2.1) (ps := x2.2) f2 hs2
  exact ⟨ta, tn, tc, T, a, n, c, ts, k, l, rfl, hT, htn, htc, hC, hn, hnc⟩

/-- What the program's own table of parts holds. -/
theorem gl_of {W : World} (hL : laidMetH Tryz.prog [("heddle/classes.slots", Rows.laid_heddle_classes_slots), ("heddle/types.partsOf", Rows.laid_heddle_types_partsOf)] W) : Gl W := by
  rw [MakeChecks.laidMetH_plain _ _ _ (by kernel_rfl)] at hL
  obtain ⟨g, t, cs, fuel, p, hg, hty, hvar, hd⟩ := Lib.laidMet.reads hL (.tail _ (.head _))
  obtain rfl := Option.some.inj ((show Tryz.prog.globalNamed "heddle/types.partsOf" = some 1 by kernel_rfl).symm.trans hg)
  obtain rfl := Option.some.inj ((show (Tryz.prog.globals[1]?).map (·.type) = some 278 by kernel_rfl).symm.trans hty)
  have hcs : cs.toList = [0, 0, 0, 0, 0, 2, 3, 0, 8, 6, 2].map (Value.int .i64) := Lib.cells_of_tab (k := .i64) (zs := [0, 0, 0, 0, 0, 2, 3, 0, 8, 6, 2]) Tryz.underlying278 Tryz.underlying3 cells3 (by kernel_rfl) hd
  intro k hk
  rw [World.var?_cell hg hvar k, ← Array.getElem?_toList, hcs]
  have : k = 0 ∨ k = 1 ∨ k = 2 ∨ k = 3 ∨ k = 4 ∨ k = 5 ∨ k = 6 ∨ k = 7 ∨ k = 8 ∨ k = 9 ∨ k = 10 := by omega
  rcases this with rfl | rfl | rfl | rfl | rfl | rfl | rfl | rfl | rfl | rfl | rfl <;> rfl

end Go.Proofs.YtbpjmcjjambdkaaGreatDoor.Ty

/-
  What a law's frame asks of this program; no statement is proved here.
-/
namespace Go.Proofs.YtbpjmcjjambdkaaGreatDoor
open Go.ChangeShapes Go.WideShapes Go.ChangeAt Go.RowKit

theorem gl_of {W : World} (hL : laidMetH Tryz.prog [("heddle/classes.slots", Rows.laid_heddle_classes_slots), ("heddle/types.partsOf", Rows.laid_heddle_types_partsOf)] W) : Gl W := by
  rw [MakeChecks.laidMetH_plain _ _ _ (by kernel_rfl)] at hL
  obtain ⟨g, t, cs, fuel, p, hg, hty, hvar, hd⟩ := Lib.laidMet.reads hL (.head _)
  obtain rfl := Option.some.inj ((show Tryz.prog.globalNamed "heddle/classes.slots" = some 0 by kernel_rfl).symm.trans hg)
  obtain rfl := Option.some.inj ((show (Tryz.prog.globals[0]?).map (·.type) = some 268 by kernel_rfl).symm.trans hty)
  have hcs : cs.toList = [8, 16, 24, 32, 48, 64, 96, 128].map (Value.int .i64) := Lib.cells_of_tab (k := .i64) (zs := [8, 16, 24, 32, 48, 64, 96, 128]) Tryz.underlying268 Tryz.underlying3 Ty.cells3 (by kernel_rfl) hd
  intro k hk
  rw [World.var?_cell hg hvar k, ← Array.getElem?_toList, hcs]
  rcases k8 (by omega : k < 8) with rfl | rfl | rfl | rfl | rfl | rfl | rfl | rfl <;> rfl
end Go.Proofs.YtbpjmcjjambdkaaGreatDoor
