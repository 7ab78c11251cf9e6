/-
  What a walk is told of lists and scripts that came in; no statement is proved here.
-/
import Derived.Test.YtbjplfbplkjibaaGrown
import Derived.OpenShut
import Derived.ShutString
import Derived.ChangeOld
import Derived.SizedLaws
namespace Go.Proofs.Ytbjplfbplkjibaa
open Go.ChangeShapes Go.WideShapes Go.ChangeAt Go.RowKit

theorem own : ownKnob Try.prog.godebug = none := by kernel_rfl
theorem laidOut : laidOutB Try.prog = true := by kernel_rfl
theorem bytes3 : Try.prog.bytesOf 3 = 8 := by kernel_rfl
theorem bytes5 : Try.prog.bytesOf 5 = 1 := by kernel_rfl
theorem bytes33 : Try.prog.bytesOf 33 = 56 := by kernel_rfl
theorem cells3 : Try.prog.cellsOf 3 = 1 := by kernel_rfl
theorem cells5 : Try.prog.cellsOf 5 = 1 := by kernel_rfl
theorem cells33 : Try.prog.cellsOf 33 = 5 := by kernel_rfl
theorem cells28 : Try.prog.cellsOf 28 = 1 := by kernel_rfl

theorem weightsAll_mem {H : Type} {P : Program} {e : TypeId} : ∀ {l : List (DataW H)} {d : DataW H}, d ∈ l → ∀ n ∈ d.weights P e, n ∈ DataW.weightsAll P e l
  | x :: r, d, h, n, hn => by
    unfold DataW.weightsAll
    rcases List.mem_cons.1 h with rfl | h
    · exact List.mem_append.2 (.inl hn)
    · exact List.mem_append.2 (.inr (weightsAll_mem h n hn))

theorem pick_list {α : Type} (d : α) (p : Nat → α → Prop) : ∀ n, (∀ i, i < n → ∃ x, p i x) → ∃ l : List α, l.length = n ∧ ∀ i, i < n → p i (l.getD i d)
  | 0, _ => ⟨[], rfl, fun i hi => by omega⟩
  | n + 1, h => by
    obtain ⟨l, h1, h2⟩ := pick_list d p n (fun i hi => h i (by omega))
    obtain ⟨x, hx⟩ := h n (by omega)
    refine ⟨l ++ [x], by simp [h1], fun i hi => ?_⟩
    by_cases e : i = n
    · subst e; simpa [List.getD, ← h1] using hx
    · have := h2 i (by omega)
      simpa [List.getD, List.getElem?_append_left (show i < l.length by omega)] using this

/-- A list of ints out of its reading. -/
theorem open_list {H : Type} {enc : TypeId × Value → H} {W : World} {fuel : Nat} {v : Value} {x : DataW H × List MemPlace} (h : DataW.trod enc Try.prog W 0 (fun _ => true) true fuel 28 [v] = some x)
    (hsz : ∀ y ∈ x.1.weights Try.prog 28, y ≤ 140737488351232) : ∃ a c, ∃ xs : List Int, v = .slice a xs.length c ∧ Is W a xs ∧ xs.length ≤ c ∧ xs.length ≤ 17592186043904 ∧ c ≤ 17592186043904 := by
  rcases open_ints Try.underlying28 Try.underlying3 cells3 h with ⟨hcs, _⟩ | ⟨q, l, c, zs, hcs, _, hl, hm, hz, hx, hcl, hwz⟩
  · obtain rfl : v = .slice none 0 0 := by simpa using hcs
    exact ⟨none, 0, [], rfl, .inl rfl, by simp, by simp, by simp⟩
  · obtain rfl : v = .slice (some q) l c := by simpa using hcs
    simp only [if_true] at hz
    have hlen2 : (zs.take l).length = l := by simp; omega
    subst hx
    have := hsz (((lits (H := H) .i64 (zs.take l)).length + (lits (H := H) .i64 (zs.drop l)).length) * Try.prog.bytesOf 3) (by
      simp only [DataW.weights, Try.underlying28]
      exact List.mem_cons_self)
    rw [bytes3] at this
    simp only [lits, List.length_map, List.length_take, List.length_drop] at this
    refine ⟨some q, c, zs.take l, by simp only [hlen2], ?_, by rw [hlen2]; exact hl, by rw [hlen2]; omega, by omega⟩
    by_cases h0 : l = 0
    · left; simp [h0]
    · right
      obtain ⟨b, o, rfl, hc2⟩ := ints_at hcl (by omega)
      refine ⟨b, o, rfl, fun j hj => ?_⟩
      simp only [List.length_map, hlen2] at hj
      have hj2 : j < zs.length := by omega
      rw [hc2 j hj2]
      simp [List.getD, hj, hj2]

/-- One call of a script, out of its reading. -/
theorem open_op {H : Type} {enc : TypeId × Value → H} {W : World} {fuel : Nat} {ad : Addr} {cs : List Value} {x : DataW H × List MemPlace} (hc : W.cells? 0 ad 5 = some cs) (h : DataW.trod enc Try.prog W 0 (fun _ => true) true fuel 33 cs = some x)
    (hsz : ∀ y ∈ x.1.weights Try.prog 33, y ≤ 140737488351232) :
    ∃ b o, ad = ⟨b, o, none⟩ ∧ ∃ q : Oq, ∃ ra rc, W.cell? ⟨b, o, none⟩ = some (.int .i64 q.kd) ∧ W.cell? ⟨b, o + 1, none⟩ = some (.int .i64 q.a) ∧ W.cell? ⟨b, o + 2, none⟩ = some (.int .i64 q.b) ∧ W.cell? ⟨b, o + 3, none⟩ = some (.int .i64 q.c) ∧ W.cell? ⟨b, o + 4, none⟩ = some (.slice ra q.r.length rc) ∧ Is W ra q.r ∧ q.r.length ≤ 17592186044416 := by
  obtain ⟨_, hlen, hcell⟩ := World.cells?_some hc
  obtain ⟨v0, v1, v2, v3, v4, rfl⟩ : ∃ v0 v1 v2 v3 v4, cs = [v0, v1, v2, v3, v4] := by
    match cs, hlen with
    | [v0, v1, v2, v3, v4], _ => exact ⟨v0, v1, v2, v3, v4, rfl⟩
  obtain ⟨xs, n, rfl, rfl, _, hxl, hf⟩ := DataW.trod_struct Try.underlying33 h
  have h0 := hcell 0 (by omega)
  have hsp := World.cell?_spot h0
  obtain ⟨b, o, sp⟩ := ad
  have hsp2 : sp = none := by simpa [Addr.add] using hsp
  subst hsp2
  have hxl2 : xs.length = 5 := hxl
  obtain ⟨x0, x1, x2, x3, x4, rfl⟩ : ∃ x0 x1 x2 x3 x4, xs = [x0, x1, x2, x3, x4] := by
    match xs, hxl2 with
    | [x0, x1, x2, x3, x4], _ => exact ⟨x0, x1, x2, x3, x4, rfl⟩
  have f0 : DataW.trod enc Try.prog W 0 (fun _ => true) true n 3 (([v0, v1, v2, v3, v4].drop 0).take (Try.prog.cellsOf 3)) = some x0 := hf 0 _ rfl
  have f1 : DataW.trod enc Try.prog W 0 (fun _ => true) true n 3 (([v0, v1, v2, v3, v4].drop 1).take (Try.prog.cellsOf 3)) = some x1 := hf 1 _ rfl
  have f2 : DataW.trod enc Try.prog W 0 (fun _ => true) true n 3 (([v0, v1, v2, v3, v4].drop 2).take (Try.prog.cellsOf 3)) = some x2 := hf 2 _ rfl
  have f3 : DataW.trod enc Try.prog W 0 (fun _ => true) true n 3 (([v0, v1, v2, v3, v4].drop 3).take (Try.prog.cellsOf 3)) = some x3 := hf 3 _ rfl
  have f4 : DataW.trod enc Try.prog W 0 (fun _ => true) true n 28 (([v0, v1, v2, v3, v4].drop 4).take (Try.prog.cellsOf 28)) = some x4 := hf 4 _ rfl
  rw [cells3] at f0 f1 f2 f3
  rw [cells28] at f4
  obtain ⟨K, e0, rfl, _⟩ := DataW.trod_int Try.underlying3 f0
  obtain ⟨A, e1, rfl, _⟩ := DataW.trod_int Try.underlying3 f1
  obtain ⟨B, e2, rfl, _⟩ := DataW.trod_int Try.underlying3 f2
  obtain ⟨C, e3, rfl, _⟩ := DataW.trod_int Try.underlying3 f3
  obtain rfl : v0 = .int .i64 K := by simpa using e0
  obtain rfl : v1 = .int .i64 A := by simpa using e1
  obtain rfl : v2 = .int .i64 B := by simpa using e2
  obtain rfl : v3 = .int .i64 C := by simpa using e3
  obtain ⟨fa, fc, r, hv4, hI, _, h2, _⟩ := open_list (v := v4) (by simpa using f4) (fun y hy => hsz y (by
    simp only [DataW.weights, Try.underlying33, List.map_cons, List.map_nil]
    exact DataW.weights_mem_each (j := 4) (t := 28) rfl rfl y hy))
  subst hv4
  refine ⟨b, o, rfl, ⟨K, A, B, C, r⟩, fa, fc, by simpa [Addr.add_lit] using h0, by simpa [Addr.add_lit] using hcell 1 (by omega), by simpa [Addr.add_lit] using hcell 2 (by omega), by simpa [Addr.add_lit] using hcell 3 (by omega), by simpa [Addr.add_lit] using hcell 4 (by omega), hI, by simp only; omega⟩

theorem open_script {H : Type} {enc : TypeId × Value → H} {W : World} {fuel : Nat} {a : Option Addr} {n c : Nat} {d : DataW H} {ps : List MemPlace} (h : DataW.trod enc Try.prog W 0 (fun _ => true) true fuel 22 [.slice a n c] = some (d, ps))
    (hsz : ∀ y ∈ d.weights Try.prog 22, y ≤ 140737488351232) : ∃ S, Sc W a S ∧ S.length = n := by
  rcases DataW.trod_slice Try.underlying22 h with ⟨hcs, _⟩ | ⟨ad, len, cap, elems, rest, fu, rfl, hcs, hx, _, _, _, hel, hE, _, _⟩
  · simp at hcs
    exact ⟨[], ⟨.inl rfl, by simp⟩, hcs.2.1.symm⟩
  · simp only [List.cons.injEq, Value.slice.injEq, and_true] at hcs
    obtain ⟨rfl, rfl, rfl⟩ := hcs
    simp only [Prod.mk.injEq] at hx
    obtain ⟨rfl, _⟩ := hx
    have hw1 := hsz (((elems.map (·.1)).length + (rest.map (·.1)).length) * Try.prog.bytesOf 33) (by
      simp only [DataW.weights, Try.underlying22]; exact List.mem_cons_self)
    rw [bytes33] at hw1
    simp only [List.length_map] at hw1
    have hall : ∀ i, i < n → ∃ b o, ad.add (i * 5) = ⟨b, o, none⟩ ∧ ∃ q : Oq, ∃ ra rc, W.cell? ⟨b, o, none⟩ = some (.int .i64 q.kd) ∧ W.cell? ⟨b, o + 1, none⟩ = some (.int .i64 q.a) ∧ W.cell? ⟨b, o + 2, none⟩ = some (.int .i64 q.b) ∧ W.cell? ⟨b, o + 3, none⟩ = some (.int .i64 q.c) ∧ W.cell? ⟨b, o + 4, none⟩ = some (.slice ra q.r.length rc) ∧ Is W ra q.r ∧ q.r.length ≤ 17592186044416 := by
      intro i hi
      have he := hE i hi
      rw [cells33] at he
      have hlt : i < elems.length := by omega
      rw [List.getElem?_eq_getElem hlt] at he
      obtain ⟨cs, hc, ht⟩ := Option.bind_eq_some_iff.1 he
      exact open_op hc ht (fun y hy => hsz y (by
        simp only [DataW.weights, Try.underlying22]
        refine List.mem_cons_of_mem _ (List.mem_append.2 (.inl ?_))
        exact weightsAll_mem (List.mem_map.2 ⟨elems[i], List.getElem_mem hlt, rfl⟩) y hy))
    by_cases h0 : n = 0
    · exact ⟨[], ⟨.inl rfl, by simp⟩, h0.symm⟩
    · obtain ⟨b, o, hb, _⟩ := hall 0 (by omega)
      obtain ⟨b', o', sp⟩ := ad
      have hsp : sp = none := by
        have := congrArg Addr.spot hb
        simpa [Addr.add] using this
      subst hsp
      obtain ⟨S, hS, hq⟩ := pick_list (⟨0, 0, 0, 0, []⟩ : Oq) (fun i q => ∃ ra rc, W.cell? ⟨b', o' + i * 5, none⟩ = some (.int .i64 q.kd) ∧ W.cell? ⟨b', o' + i * 5 + 1, none⟩ = some (.int .i64 q.a) ∧ W.cell? ⟨b', o' + i * 5 + 2, none⟩ = some (.int .i64 q.b) ∧ W.cell? ⟨b', o' + i * 5 + 3, none⟩ = some (.int .i64 q.c) ∧ W.cell? ⟨b', o' + i * 5 + 4, none⟩ = some (.slice ra q.r.length rc) ∧ Is W ra q.r ∧ q.r.length ≤ 17592186044416) n (fun i hi => by
        obtain ⟨b2, o2, hb2, q, h1⟩ := hall i hi
        rw [Addr.add_lit] at hb2
        simp only [Addr.mk.injEq, and_true] at hb2
        obtain ⟨rfl, rfl⟩ := hb2
        exact ⟨q, h1⟩)
      exact ⟨S, ⟨.inr ⟨b', o', rfl, fun i hi => hq i (by omega)⟩, by omega⟩, hS⟩


end Go.Proofs.Ytbjplfbplkjibaa
