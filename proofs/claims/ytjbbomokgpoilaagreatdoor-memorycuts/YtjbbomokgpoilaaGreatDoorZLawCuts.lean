/-
  A collection that is done in pieces leaves what one leaves that is done at one time: the function MemoryCuts answers true; the table of sizes in the program is what its text lays.
-/
import Derived.Test.YtjbbomokgpoilaaGreatDoorZMH
import Derived.Test.YtjbbomokgpoilaaGreatDoorZO
import Derived.Deep.Grids
import Derived.Test.YtjbbomokgpoilaaGreatDoorZME2
import Derived.Test.YtjbbomokgpoilaaGreatDoorCards
import Derived.Test.YtjbbomokgpoilaaGreatDoorTie
/-
  What a walk is told of a script that came in; no statement is proved here.
-/
namespace Go.Proofs.YtjbbomokgpoilaaGreatDoor
open Go.ChangeShapes Go.WideShapes Go.ChangeAt Go.RowKit Go.Deep

theorem bytes3 : Tryz.prog.bytesOf 3 = 8 := by kernel_rfl
theorem bytes4 : Tryz.prog.bytesOf 4 = 1 := by kernel_rfl
theorem bytes113 : Tryz.prog.bytesOf 113 = 96 := by kernel_rfl
theorem cells4 : Tryz.prog.cellsOf 4 = 1 := by kernel_rfl
theorem cells26 : Tryz.prog.cellsOf 26 = 1 := by kernel_rfl
theorem cells27 : Tryz.prog.cellsOf 27 = 1 := by kernel_rfl
theorem cells32 : Tryz.prog.cellsOf 32 = 1 := by kernel_rfl
theorem cells113 : Tryz.prog.cellsOf 113 = 8 := by kernel_rfl

theorem weightsAll_mem {H : Type} {P : Program} {e : TypeId} : ∀ {l : List (DataW H)} {d : DataW H}, d ∈ l → ∀ n ∈ d.weights P e, n ∈ DataW.weightsAll P e l
  | x :: r, d, h, n, hn => by
    unfold DataW.weightsAll
    rcases List.mem_cons.1 h with rfl | h
    · exact List.mem_append.2 (.inl hn)
    · exact List.mem_append.2 (.inr (weightsAll_mem h n hn))

theorem pick_list {α : Type} (p : Nat → α → Prop) : ∀ n, (∀ i, i < n → ∃ x, p i x) → ∃ l : List α, l.length = n ∧ ∀ i, ∀ hi : i < l.length, p i l[i]
  | 0, _ => ⟨[], rfl, fun i hi => by simp at hi⟩
  | n + 1, h => by
    obtain ⟨l, h1, h2⟩ := pick_list p n (fun i hi => h i (by omega))
    obtain ⟨x, hx⟩ := h n (by omega)
    refine ⟨l ++ [x], by simp [h1], fun i hi => ?_⟩
    by_cases e : i = n
    · subst e; simpa [← h1] using hx
    · have hi2 : i < l.length := by simp at hi; omega
      have := h2 i hi2
      simpa [List.getElem_append_left hi2] using this

/-- A list of ints out of its reading. -/
theorem open_list {H : Type} {enc : TypeId × Value → H} {W : World} {fuel : Nat} {v : Value} {x : DataW H × List MemPlace} (h : DataW.trod enc Tryz.prog W 0 (fun _ => true) true fuel 32 [v] = some x)
    (hsz : ∀ y ∈ x.1.weights Tryz.prog 32, y ≤ 140737488351232) : ∃ a c, ∃ xs : List Int, v = .slice a xs.length c ∧ Co.Is W a xs ∧ xs.length ≤ 17592186043904 ∧ ∀ y ∈ xs, I64 y := by
  rcases open_ints Tryz.underlying32 Tryz.underlying3 cells3 h with ⟨hcs, _⟩ | ⟨q, l, c, zs, hcs, _, hl, hm, hz, hx, hcl, hwz⟩
  · obtain rfl : v = .slice none 0 0 := by simpa using hcs
    exact ⟨none, 0, [], rfl, .inl rfl, by simp, by simp⟩
  · obtain rfl : v = .slice (some q) l c := by simpa using hcs
    simp only [if_true] at hz
    have hlen2 : (zs.take l).length = l := by simp; omega
    subst hx
    have := hsz (((lits (H := H) .i64 (zs.take l)).length + (lits (H := H) .i64 (zs.drop l)).length) * Tryz.prog.bytesOf 3) (by
      simp only [DataW.weights, Tryz.underlying32]
      exact List.mem_cons_self)
    rw [bytes3] at this
    simp only [lits, List.length_map, List.length_take, List.length_drop] at this
    refine ⟨some q, c, zs.take l, by simp only [hlen2], ?_, by rw [hlen2]; omega, fun y hy => i64_of_wf (hwz y (List.mem_of_mem_take hy))⟩
    by_cases h0 : l = 0
    · left; simp [h0]
    · right
      obtain ⟨b, o, rfl, hc2⟩ := ints_at hcl (by omega)
      refine ⟨b, o, rfl, fun j hj => ?_⟩
      simp only [List.length_map, hlen2] at hj
      have hj2 : j < zs.length := by omega
      rw [hc2 j hj2]
      simp [List.getD, hj, hj2]

/-- A list of truths out of its reading. -/
theorem open_truths {H : Type} {enc : TypeId × Value → H} {W : World} {fuel : Nat} {v : Value} {x : DataW H × List MemPlace} (h : DataW.trod enc Tryz.prog W 0 (fun _ => true) true fuel 26 [v] = some x)
    (hsz : ∀ y ∈ x.1.weights Tryz.prog 26, y ≤ 140737488351232) : ∃ a c, ∃ xs : List Bool, v = .slice a xs.length c ∧ Co.Os W a xs ∧ xs.length ≤ 140737488351232 := by
  rcases open_bools Tryz.underlying26 Tryz.underlying4 cells4 h with ⟨hcs, _⟩ | ⟨q, l, c, B, hcs, _, hl, hm, hx, hcl⟩
  · obtain rfl : v = .slice none 0 0 := by simpa using hcs
    exact ⟨none, 0, [], rfl, .inl rfl, by simp⟩
  · obtain rfl : v = .slice (some q) l c := by simpa using hcs
    subst hx
    have hw := hsz ((((List.range l).map fun i => (DataW.lit (.bool (B i)) : DataW H)).length + ((List.range (c - l)).map fun j => (DataW.lit (.bool (B (l + j))) : DataW H)).length) * Tryz.prog.bytesOf 4) (by
      simp only [boolRow, DataW.weights, Tryz.underlying26]
      exact List.mem_cons_self)
    rw [bytes4] at hw
    simp only [List.length_map, List.length_range] at hw
    refine ⟨some q, c, (List.range l).map B, by simp, ?_, by simp; omega⟩
    by_cases h0 : l = 0
    · left; simp [h0]
    · right
      obtain ⟨b, o, sp⟩ := q
      have hsp : sp = none := by
        have := World.cell?_spot (hcl 0 (by omega))
        simpa [Addr.add] using this
      subst hsp
      refine ⟨b, o, rfl, fun j hj => ?_⟩
      simp only [List.length_map, List.length_range] at hj
      have h1 := hcl j (by omega)
      rw [Addr.add_lit] at h1
      rw [h1]
      simp [hj]

set_option maxRecDepth 100000 in
/-- One call of a script, out of its reading. -/
theorem open_op {H : Type} {enc : TypeId × Value → H} {W : World} {fuel : Nat} {ad : Addr} {cs : List Value} {x : DataW H × List MemPlace} (hc : W.cells? 0 ad 8 = some cs) (h : DataW.trod enc Tryz.prog W 0 (fun _ => true) true fuel 113 cs = some x)
    (hsz : ∀ y ∈ x.1.weights Tryz.prog 113, y ≤ 140737488351232) :
    ∃ b o, ad = ⟨b, o, none⟩ ∧ ∃ q : Oq, ∃ pa pn pc ra rn rc, Opm W q pa pn pc ra rn rc ∧ W.cell? ⟨b, o, none⟩ = some (.int .i64 q.kd) ∧ W.cell? ⟨b, o + 1, none⟩ = some (.int .i64 q.A) ∧ W.cell? ⟨b, o + 2, none⟩ = some (.int .i64 q.I) ∧ W.cell? ⟨b, o + 3, none⟩ = some (.int .i64 q.to) ∧ W.cell? ⟨b, o + 4, none⟩ = some (.int .i64 q.tag) ∧ W.cell? ⟨b, o + 5, none⟩ = some (.int .u64 q.V) ∧ W.cell? ⟨b, o + 6, none⟩ = some (.slice pa pn pc) ∧ W.cell? ⟨b, o + 7, none⟩ = some (.slice ra rn rc) := by
  obtain ⟨_, hlen, hcell⟩ := World.cells?_some hc
  obtain ⟨v0, v1, v2, v3, v4, v5, v6, v7, rfl⟩ : ∃ v0 v1 v2 v3 v4 v5 v6 v7, cs = [v0, v1, v2, v3, v4, v5, v6, v7] := by
    match cs, hlen with
    | [v0, v1, v2, v3, v4, v5, v6, v7], _ => exact ⟨v0, v1, v2, v3, v4, v5, v6, v7, rfl⟩
  obtain ⟨xs, n, rfl, rfl, _, hxl, hf⟩ := DataW.trod_struct Tryz.underlying113 h
  have h0 := hcell 0 (by omega)
  have hsp := World.cell?_spot h0
  obtain ⟨b, o, sp⟩ := ad
  have hsp2 : sp = none := by simpa [Addr.add] using hsp
  subst hsp2
  have hxl2 : xs.length = 8 := hxl
  obtain ⟨x0, x1, x2, x3, x4, x5, x6, x7, rfl⟩ : ∃ x0 x1 x2 x3 x4 x5 x6 x7, xs = [x0, x1, x2, x3, x4, x5, x6, x7] := by
    match xs, hxl2 with
    | [x0, x1, x2, x3, x4, x5, x6, x7], _ => exact ⟨x0, x1, x2, x3, x4, x5, x6, x7, rfl⟩
  have f0 : DataW.trod enc Tryz.prog W 0 (fun _ => true) true n 3 (([v0, v1, v2, v3, v4, v5, v6, v7].drop 0).take (Tryz.prog.cellsOf 3)) = some x0 := hf 0 _ rfl
  have f1 : DataW.trod enc Tryz.prog W 0 (fun _ => true) true n 3 (([v0, v1, v2, v3, v4, v5, v6, v7].drop 1).take (Tryz.prog.cellsOf 3)) = some x1 := hf 1 _ rfl
  have f2 : DataW.trod enc Tryz.prog W 0 (fun _ => true) true n 3 (([v0, v1, v2, v3, v4, v5, v6, v7].drop 2).take (Tryz.prog.cellsOf 3)) = some x2 := hf 2 _ rfl
  have f3 : DataW.trod enc Tryz.prog W 0 (fun _ => true) true n 3 (([v0, v1, v2, v3, v4, v5, v6, v7].drop 3).take (Tryz.prog.cellsOf 3)) = some x3 := hf 3 _ rfl
  have f4 : DataW.trod enc Tryz.prog W 0 (fun _ => true) true n 3 (([v0, v1, v2, v3, v4, v5, v6, v7].drop 4).take (Tryz.prog.cellsOf 3)) = some x4 := hf 4 _ rfl
  have f5 : DataW.trod enc Tryz.prog W 0 (fun _ => true) true n 27 (([v0, v1, v2, v3, v4, v5, v6, v7].drop 5).take (Tryz.prog.cellsOf 27)) = some x5 := hf 5 _ rfl
  have f6 : DataW.trod enc Tryz.prog W 0 (fun _ => true) true n 26 (([v0, v1, v2, v3, v4, v5, v6, v7].drop 6).take (Tryz.prog.cellsOf 26)) = some x6 := hf 6 _ rfl
  have f7 : DataW.trod enc Tryz.prog W 0 (fun _ => true) true n 32 (([v0, v1, v2, v3, v4, v5, v6, v7].drop 7).take (Tryz.prog.cellsOf 32)) = some x7 := hf 7 _ rfl
  rw [cells3] at f0 f1 f2 f3 f4
  rw [cells27] at f5
  rw [cells26] at f6
  rw [cells32] at f7
  obtain ⟨K, e0, rfl, w0⟩ := DataW.trod_int Tryz.underlying3 f0
  obtain ⟨A, e1, rfl, w1⟩ := DataW.trod_int Tryz.underlying3 f1
  obtain ⟨I, e2, rfl, w2⟩ := DataW.trod_int Tryz.underlying3 f2
  obtain ⟨T, e3, rfl, w3⟩ := DataW.trod_int Tryz.underlying3 f3
  obtain ⟨G, e4, rfl, w4⟩ := DataW.trod_int Tryz.underlying3 f4
  obtain ⟨V, e5, rfl, w5⟩ := DataW.trod_int Tryz.underlying27 f5
  obtain rfl : v0 = .int .i64 K := by simpa using e0
  obtain rfl : v1 = .int .i64 A := by simpa using e1
  obtain rfl : v2 = .int .i64 I := by simpa using e2
  obtain rfl : v3 = .int .i64 T := by simpa using e3
  obtain rfl : v4 = .int .i64 G := by simpa using e4
  obtain rfl : v5 = .int .u64 V := by simpa using e5
  obtain ⟨pa, pc, ps, hv6, hO, ho2⟩ := open_truths (v := v6) (by simpa using f6) (fun y hy => hsz y (by
    simp only [DataW.weights, Tryz.underlying113, List.map_cons, List.map_nil]
    exact DataW.weights_mem_each (j := 6) (t := 26) rfl rfl y hy))
  subst hv6
  obtain ⟨ra, rc, r, hv7, hI, hi2, hi3⟩ := open_list (v := v7) (by simpa using f7) (fun y hy => hsz y (by
    simp only [DataW.weights, Tryz.underlying113, List.map_cons, List.map_nil]
    exact DataW.weights_mem_each (j := 7) (t := 32) rfl rfl y hy))
  subst hv7
  refine ⟨b, o, rfl, ⟨K, A, I, T, G, V, ps, r⟩, pa, ps.length, pc, ra, r.length, rc, ⟨hO, rfl, by omega, hI, rfl, by omega, u64_of_wf w5, i64_of_wf w1, i64_of_wf w2, i64_of_wf w3, hi3⟩, by simpa [Addr.add_lit] using h0, by simpa [Addr.add_lit] using hcell 1 (by omega), by simpa [Addr.add_lit] using hcell 2 (by omega), by simpa [Addr.add_lit] using hcell 3 (by omega), by simpa [Addr.add_lit] using hcell 4 (by omega), by simpa [Addr.add_lit] using hcell 5 (by omega), by simpa [Addr.add_lit] using hcell 6 (by omega), by simpa [Addr.add_lit] using hcell 7 (by omega)⟩

theorem open_script {H : Type} {enc : TypeId × Value → H} {W : World} {fuel : Nat} {a : Option Addr} {n c : Nat} {d : DataW H} {ps : List MemPlace} (h : DataW.trod enc Tryz.prog W 0 (fun _ => true) true fuel 49 [.slice a n c] = some (d, ps))
    (hsz : ∀ y ∈ d.weights Tryz.prog 49, y ≤ 140737488351232) : ∃ S : List Oq, Scr W a S ∧ S.length = n := by
  rcases DataW.trod_slice Tryz.underlying49 h with ⟨hcs, _⟩ | ⟨ad, len, cap, elems, rest, fu, rfl, hcs, hx, _, _, _, hel, hE, _, _⟩
  · simp at hcs
    exact ⟨[], ⟨.inl rfl, by simp⟩, hcs.2.1.symm⟩
  · simp only [List.cons.injEq, Value.slice.injEq, and_true] at hcs
    obtain ⟨rfl, rfl, rfl⟩ := hcs
    simp only [Prod.mk.injEq] at hx
    obtain ⟨rfl, _⟩ := hx
    have hw1 := hsz (((elems.map (·.1)).length + (rest.map (·.1)).length) * Tryz.prog.bytesOf 113) (by
      simp only [DataW.weights, Tryz.underlying49]; exact List.mem_cons_self)
    rw [bytes113] at hw1
    simp only [List.length_map] at hw1
    have hall : ∀ i, i < n → ∃ b o, ad.add (i * 8) = ⟨b, o, none⟩ ∧ ∃ q : Oq, ∃ pa pn pc ra rn rc, Opm W q pa pn pc ra rn rc ∧ W.cell? ⟨b, o, none⟩ = some (.int .i64 q.kd) ∧ W.cell? ⟨b, o + 1, none⟩ = some (.int .i64 q.A) ∧ W.cell? ⟨b, o + 2, none⟩ = some (.int .i64 q.I) ∧ W.cell? ⟨b, o + 3, none⟩ = some (.int .i64 q.to) ∧ W.cell? ⟨b, o + 4, none⟩ = some (.int .i64 q.tag) ∧ W.cell? ⟨b, o + 5, none⟩ = some (.int .u64 q.V) ∧ W.cell? ⟨b, o + 6, none⟩ = some (.slice pa pn pc) ∧ W.cell? ⟨b, o + 7, none⟩ = some (.slice ra rn rc) := by
      intro i hi
      have he := hE i hi
      rw [cells113] at he
      have hlt : i < elems.length := by omega
      rw [List.getElem?_eq_getElem hlt] at he
      obtain ⟨cs, hc, ht⟩ := Option.bind_eq_some_iff.1 he
      exact open_op hc ht (fun y hy => hsz y (by
        simp only [DataW.weights, Tryz.underlying49]
        refine List.mem_cons_of_mem _ (List.mem_append.2 (.inl ?_))
        exact weightsAll_mem (List.mem_map.2 ⟨elems[i], List.getElem_mem hlt, rfl⟩) y hy))
    by_cases h0 : n = 0
    · exact ⟨[], ⟨.inl rfl, by simp⟩, h0.symm⟩
    · obtain ⟨b, o, hb, _⟩ := hall 0 (by omega)
      obtain ⟨b', o', sp⟩ := ad
      have hsp : sp = none := by
        have := congrArg Addr.spot hb
        simpa [Addr.add] using this
      subst hsp
      obtain ⟨S, hS, hq⟩ := pick_list (fun i (q : Oq) => ∃ pa pn pc ra rn rc, Opm W q pa pn pc ra rn rc ∧ W.cell? ⟨b', o' + i * 8, none⟩ = some (.int .i64 q.kd) ∧ W.cell? ⟨b', o' + i * 8 + 1, none⟩ = some (.int .i64 q.A) ∧ W.cell? ⟨b', o' + i * 8 + 2, none⟩ = some (.int .i64 q.I) ∧ W.cell? ⟨b', o' + i * 8 + 3, none⟩ = some (.int .i64 q.to) ∧ W.cell? ⟨b', o' + i * 8 + 4, none⟩ = some (.int .i64 q.tag) ∧ W.cell? ⟨b', o' + i * 8 + 5, none⟩ = some (.int .u64 q.V) ∧ W.cell? ⟨b', o' + i * 8 + 6, none⟩ = some (.slice pa pn pc) ∧ W.cell? ⟨b', o' + i * 8 + 7, none⟩ = some (.slice ra rn rc)) n (fun i hi => by
        obtain ⟨b2, o2, hb2, q, h1⟩ := hall i hi
        rw [Addr.add_lit] at hb2
        simp only [Addr.mk.injEq, and_true] at hb2
        obtain ⟨rfl, rfl⟩ := hb2
        exact ⟨q, h1⟩)
      exact ⟨S, ⟨.inr ⟨b', o', rfl, fun i hi => hq i hi⟩, by omega⟩, hS⟩

end Go.Proofs.YtjbbomokgpoilaaGreatDoor

/-
  What a walk is told of bytes that came in; no statement is proved here.
-/
namespace Go.Proofs.YtjbbomokgpoilaaGreatDoor
open Go.ChangeShapes Go.WideShapes Go.ChangeAt Go.RowKit Go.Deep

theorem bytes5 : Tryz.prog.bytesOf 5 = 1 := by kernel_rfl
theorem cells5 : Tryz.prog.cellsOf 5 = 1 := by kernel_rfl
theorem u8_of_wf {n : Int} (h : (Lit.int .u8 n).wf = true) : 0 ≤ n ∧ n < 256 := by
  have := bounds_u8 h
  omega
/-- A list of bytes out of its reading. -/
theorem open_bytes {H : Type} {enc : TypeId × Value → H} {W : World} {fuel : Nat} {v : Value} {x : DataW H × List MemPlace} (h : DataW.trod enc Tryz.prog W 0 (fun _ => true) true fuel 58 [v] = some x)
    (hsz : ∀ y ∈ x.1.weights Tryz.prog 58, y ≤ 140737488351232) : ∃ a c, ∃ xs : List Int, v = .slice a xs.length c ∧ Bz W a xs ∧ xs.length ≤ 140737488351232 ∧ ∀ y ∈ xs, 0 ≤ y ∧ y < 256 := by
  rcases open_ints Tryz.underlying58 Tryz.underlying5 cells5 h with ⟨hcs, _⟩ | ⟨q, l, c, zs, hcs, _, hl, hm, hz, hx, hcl, hwz⟩
  · obtain rfl : v = .slice none 0 0 := by simpa using hcs
    exact ⟨none, 0, [], rfl, .inl rfl, by simp, by simp⟩
  · obtain rfl : v = .slice (some q) l c := by simpa using hcs
    simp only [if_true] at hz
    have hlen2 : (zs.take l).length = l := by simp; omega
    subst hx
    have := hsz (((lits (H := H) .u8 (zs.take l)).length + (lits (H := H) .u8 (zs.drop l)).length) * Tryz.prog.bytesOf 5) (by
      simp only [DataW.weights, Tryz.underlying58]
      exact List.mem_cons_self)
    rw [bytes5] at this
    simp only [lits, List.length_map, List.length_take, List.length_drop] at this
    refine ⟨some q, c, zs.take l, by simp only [hlen2], ?_, by rw [hlen2]; omega, fun y hy => u8_of_wf (hwz y (List.mem_of_mem_take hy))⟩
    by_cases h0 : l = 0
    · left; simp [h0]
    · right
      obtain ⟨b, o, rfl, hc2⟩ := ints_at hcl (by omega)
      refine ⟨b, o, rfl, fun j hj => ?_⟩
      simp only [List.length_map, hlen2] at hj
      have hj2 : j < zs.length := by omega
      rw [hc2 j hj2]
      simp [List.getD, hj, hj2]
end Go.Proofs.YtjbbomokgpoilaaGreatDoor

namespace Go.Proofs.YtjbbomokgpoilaaGreatDoor.memoryCuts
open Go.ChangeShapes Go.WideShapes Go.ChangeAt Go.RowKit

set_option maxRecDepth 100000 in
theorem lifted (os : Go.Os) (started : os.Started) (H : Type) (enc : TypeId × Value → H) :
    ReturnsInHanded {} Tryz.checked os 5 .any (fun w args => (Rows.memoryCutsSpec.pre enc Tryz.prog Tryz.f5 [] false w args ∧ laidMetH Tryz.prog [("heddle/classes.slots", Rows.laid_heddle_classes_slots)] w) ∧ sizedMet enc Tryz.prog Tryz.f5 (OpenSpec.ofChange Rows.memoryCutsSpec) false w args)
      (Rows.memoryCutsSpec.post enc Tryz.prog Tryz.f5 false true false false) := by
  refine returnsInHanded_of_change_and (C := Tryz.checked) (X := fun w _ => laidMetH Tryz.prog [("heddle/classes.slots", Rows.laid_heddle_classes_slots)] w) (fun _ _ _ hh h => h.of_heap hh) own started (by kernel_rfl) Tryz.func5
    (ChangeSpec.witness_shaped (enc := enc) (C := Tryz.checked) (os := os) (X := fun w _ => laidMetH Tryz.prog [("heddle/classes.slots", Rows.laid_heddle_classes_slots)] w) false (World.laidAll Tryz.prog os [("heddle/classes.slots", Rows.laid_heddle_classes_slots)]) #[.int .i64 0, .int .i64 0, .slice none 0 0, .slice none 0 0, .slice none 0 0] 8 (World.laidAll_os _ _ _)
      (World.shaped_of_ZipB (by kernel_rfl) (by kernel_rfl)) (by kernel_rfl) (by kernel_rfl) (by kernel_rfl)
      (by rw [MakeChecks.laidMetH_plain _ _ _ (by kernel_rfl)]; exact laidMet_laidAll _ (by kernel_rfl) (by kernel_rfl))) ?_
  intro W base args ds gs before hval0 hW _ hsz0 hL _
  have hval : ∀ (j : Nat) t v, Tryz.f5.params[j]? = some t → args[j]? = some v → Value.okWide Tryz.prog W .any base t v := hval0
  have hW' := hW
  obtain ⟨p, q, hA0, hV, rfl, hfz, hnd⟩ := hW
  have hA : DataW.TrodAll enc Tryz.prog W 0 (fun _ => true) true Tryz.f5.params.toList args.toList ds p := hA0
  rw [Tryz.params5] at hA hval
  obtain ⟨v0, vs0, d0, ds0, p0, q0, hargs, rfl, rfl, h0, r0⟩ := trodAll_cons hA
  obtain ⟨v1, vs1, d1, ds1, p1, q1, rfl, rfl, rfl, h1, r1⟩ := trodAll_cons r0
  obtain ⟨v2, vs2, d2, ds2, p2, q2, rfl, rfl, rfl, h2, r2⟩ := trodAll_cons r1
  obtain ⟨v3, vs3, d3, ds3, p3, q3, rfl, rfl, rfl, h3, r3⟩ := trodAll_cons r2
  obtain ⟨v4, vs4, d4, ds4, p4, q4, rfl, rfl, rfl, h4, r4⟩ := trodAll_cons r3
  obtain ⟨rfl, rfl, rfl⟩ := trodAll_nil r4
  obtain rfl : args = #[v0, v1, v2, v3, v4] := by cases args; simp_all
  obtain ⟨rfl, rfl⟩ := trodVars_none hV
  obtain ⟨a0, rfl, rfl, rfl, w0⟩ := open_int Tryz.underlying3 (hval 0 3 v0 rfl rfl) h0
  obtain ⟨a1, rfl, rfl, rfl, w1⟩ := open_int Tryz.underlying3 (hval 1 3 v1 rfl rfl) h1
  obtain ⟨a2, len2, cap2, rfl⟩ := okWide_slice Tryz.underlying49 (hval 2 49 v2 rfl rfl)
  obtain ⟨a3, len3, cap3, rfl⟩ := okWide_slice Tryz.underlying32 (hval 3 32 v3 rfl rfl)
  obtain ⟨a4, len4, cap4, rfl⟩ := okWide_slice Tryz.underlying58 (hval 4 58 v4 rfl rfl)
  have k2 := h2
  have lt2 : ∀ x ∈ p2, x.block < W.heap.size := by obtain ⟨m, hm⟩ := k2; exact DataW.trod_lt m _ _ _ hm
  have k3 := h3
  have lt3 : ∀ x ∈ p3, x.block < W.heap.size := by obtain ⟨m, hm⟩ := k3; exact DataW.trod_lt m _ _ _ hm
  have k4 := h4
  have lt4 : ∀ x ∈ p4, x.block < W.heap.size := by obtain ⟨m, hm⟩ := k4; exact DataW.trod_lt m _ _ _ hm
  have hsz : (DataW.weightsEach Tryz.prog [3, 3, 49, 32, 58] [_, _, d2, d3, d4]).all (· ≤ reachBytes) = true := hsz0
  have hw2 : ∀ y ∈ d2.weights Tryz.prog 49, y ≤ 140737488351232 := by
    intro y hy
    have := List.all_eq_true.1 hsz y (DataW.weights_mem_each (j := 2) (t := 49) rfl rfl y hy)
    have h2 := of_decide_eq_true this
    simpa [reachBytes] using h2
  obtain ⟨fuel2, hf2⟩ := h2
  obtain ⟨S2, hS2, hSn2⟩ := open_script (n := len2) (c := cap2) hf2 hw2
  subst hSn2
  have hw3 : ∀ y ∈ d3.weights Tryz.prog 32, y ≤ 140737488351232 := by
    intro y hy
    have := List.all_eq_true.1 hsz y (DataW.weights_mem_each (j := 3) (t := 32) rfl rfl y hy)
    have h2 := of_decide_eq_true this
    simpa [reachBytes] using h2
  obtain ⟨fuel3, hf3⟩ := h3
  obtain ⟨b3, c3, X3, hv3, hI3, hb3, hi3⟩ := open_list (v := .slice a3 len3 cap3) hf3 hw3
  simp only [Value.slice.injEq] at hv3
  obtain ⟨rfl, rfl, rfl⟩ := hv3
  have hw4 : ∀ y ∈ d4.weights Tryz.prog 58, y ≤ 140737488351232 := by
    intro y hy
    have := List.all_eq_true.1 hsz y (DataW.weights_mem_each (j := 4) (t := 58) rfl rfl y hy)
    have h2 := of_decide_eq_true this
    simpa [reachBytes] using h2
  obtain ⟨fuel4, hf4⟩ := h4
  obtain ⟨b4, c4, X4, hv4, hI4, hb4, hi4⟩ := open_bytes (v := .slice a4 len4 cap4) hf4 hw4
  simp only [Value.slice.injEq] at hv4
  obtain ⟨rfl, rfl, rfl⟩ := hv4
  clear hA0 hval0
  refine (cutsWalk a0 a1 a2 _ cap2 S2 _ _ _ X3 _ _ _ X4 W (gl_of hL) hS2 rfl hI3 rfl hb3 hi3 hI4 rfl hb4 hi4).mono fun e W' ⟨he, hext⟩ => ?_
  subst he
  have bel := hext.below
  exact ⟨_, rfl, _, _, _, [], _, [], hW', trodAll_mk1 (shut_bool Tryz.underlying4 _), (trodAll_cons_mk (shut_int Tryz.underlying3 w0) (trodAll_cons_mk (shut_int Tryz.underlying3 w1) (trodAll_cons_mk (Below.trod laidOut (by kernel_rfl) (of_decide_eq_true (by kernel_rfl)) k2 bel lt2) (trodAll_cons_mk (Below.trod laidOut (by kernel_rfl) (of_decide_eq_true (by kernel_rfl)) k3 bel lt3) (trodAll_cons_mk (Below.trod laidOut (by kernel_rfl) (of_decide_eq_true (by kernel_rfl)) k4 bel lt4) trodAll_mk0))))), rfl, bel.frame _, fun h => by cases h⟩

theorem over : Rows.memoryCutsRow.holds Tryz.pinned (OpenSpec.ofChange Rows.memoryCutsSpec) :=
  OpenClaim.holds_of_wide 5 Tryz.f5 rfl rfl rfl rfl rfl rfl rfl ⟨rfl, rfl, rfl, rfl, rfl⟩ rfl rfl rfl rfl rfl (by kernel_rfl) Tryz.func5 (by kernel_rfl)
    (of_decide_eq_true (by kernel_rfl)) (by unfold Func.isWrapper; first | (rw [if_pos (by decide +kernel)]; kernel_rfl) | (rw [if_neg (by decide +kernel)]; exact ⟨rfl, rfl⟩))
    (fun os started H enc _ => lifted os started H enc)

theorem card : Rows.MemoryCutsCardSaid :=
  Claim7.holds_tied_plain_at .later [] [.data] true (true, "8a1297ce5c09f08ca0307cee4e9cdba2a9392fac5c9d0d4c142f6cef68ab8c06") false over (fun _ h => by cases h) (by kernel_rfl) (fun _ h => by cases h) memoryCuts_row_tie rfl ⟨rfl, rfl⟩ (by kernel_rfl) rfl
    (fun f fn hf hfn => by
      obtain rfl : f = 5 := Option.some.inj ((show Tryz.prog.funcNamed "heddle/heddlelaw09.MemoryCuts" = some 5 by kernel_rfl).symm.trans hf) |>.symm
      obtain rfl : fn = Tryz.f5 := (Option.some.inj (Tryz.func5.symm.trans hfn)).symm
      exact ⟨by kernel_rfl, fun j t ht => by
        rw [Tryz.params5] at ht
        have hm : t ∈ ([3, 3, 49, 32, 58] : List TypeId) := by simpa using Array.mem_of_getElem? ht
        have hall : (([3, 3, 49, 32, 58] : List TypeId).all fun u => !Tryz.prog.wantsStandIn u) = true := by kernel_rfl
        exact (show Tryz.prog.wantsStandIn t = false by simpa using List.all_eq_true.1 hall t hm)⟩)
    (by kernel_rfl)

end Go.Proofs.YtjbbomokgpoilaaGreatDoor.memoryCuts

namespace Go.Proofs.YtjbbomokgpoilaaGreatDoor
theorem memoryCuts_holds : Rows.MemoryCutsCardSaid := memoryCuts.card
#print axioms memoryCuts_holds
end Go.Proofs.YtjbbomokgpoilaaGreatDoor
