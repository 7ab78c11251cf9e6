/-
  What a script that is handed in reads as; no statement is proved here.
-/
import Derived.Test.YtkdgekdacinlhaaSame
import Derived.OpenShut
import Derived.ShutString
import Derived.ChangeOld
namespace Go.Proofs.Ytkdgekdacinlhaa
open Go.ChangeShapes Go.WideShapes Go.ChangeAt Go.RowKit

theorem own : ownKnob Try.prog.godebug = none := by kernel_rfl
theorem laidOut : laidOutB Try.prog = true := by kernel_rfl

theorem bytes33 : Try.prog.bytesOf 33 = 16 := by kernel_rfl
theorem cells33 : Try.prog.cellsOf 33 = 2 := by kernel_rfl
theorem cells3 : Try.prog.cellsOf 3 = 1 := by kernel_rfl

theorem choose_pairs {Q : Nat → Int → Int → Prop} : ∀ n, (∀ i, i < n → ∃ k m, Q i k m) → ∃ S : List (Int × Int), S.length = n ∧ ∀ i, i < n → Q i (S.getD i (0, 0)).1 (S.getD i (0, 0)).2
  | 0, _ => ⟨[], rfl, fun i h => by omega⟩
  | n + 1, h => by
    obtain ⟨S, hS, hq⟩ := choose_pairs n (fun i hi => h i (by omega))
    obtain ⟨k, m, hk⟩ := h n (by omega)
    refine ⟨S ++ [(k, m)], by simp [hS], fun i hi => ?_⟩
    by_cases e : i = n
    · subst e
      simp only [List.getD]
      rw [List.getElem?_append_right (by omega), hS, Nat.sub_self]
      exact hk
    · have := hq i (by omega)
      simp only [List.getD] at this ⊢
      rw [List.getElem?_append_left (by omega)]
      exact this

/-- One call of the script, out of its reading. -/
theorem open_op {H : Type} {enc : TypeId × Value → H} {W : World} {fuel : Nat} {ad : Addr} {cs : List Value} {x : DataW H × List MemPlace} (hc : W.cells? 0 ad 2 = some cs) (h : DataW.trod enc Try.prog W 0 (fun _ => true) true fuel 33 cs = some x) :
    ∃ b o, ad = ⟨b, o, none⟩ ∧ ∃ K N, W.cell? ⟨b, o, none⟩ = some (.int .i64 K) ∧ W.cell? ⟨b, o + 1, none⟩ = some (.int .i64 N) := by
  obtain ⟨_, hlen, hcell⟩ := World.cells?_some hc
  obtain ⟨v0, v1, rfl⟩ : ∃ v0 v1, cs = [v0, v1] := by
    match cs, hlen with
    | [v0, v1], _ => exact ⟨v0, v1, rfl⟩
  obtain ⟨xs, n, rfl, rfl, _, hxl, hf⟩ := DataW.trod_struct Try.underlying33 h
  have h0 := hcell 0 (by omega)
  have hsp := World.cell?_spot h0
  obtain ⟨b, o, sp⟩ := ad
  have hsp2 : sp = none := by simpa [Addr.add] using hsp
  subst hsp2
  have f0 : DataW.trod enc Try.prog W 0 (fun _ => true) true n 3 (([v0, v1].drop 0).take (Try.prog.cellsOf 3)) = xs[0]? := hf 0 _ rfl
  rw [cells3] at f0
  have f1 : DataW.trod enc Try.prog W 0 (fun _ => true) true n 3 (([v0, v1].drop 1).take (Try.prog.cellsOf 3)) = xs[1]? := hf 1 _ rfl
  rw [cells3] at f1
  have hxl2 : xs.length = 2 := hxl
  obtain ⟨x0, x1, rfl⟩ : ∃ x0 x1, xs = [x0, x1] := by
    match xs, hxl2 with
    | [x0, x1], _ => exact ⟨x0, x1, rfl⟩
  obtain ⟨K, e0, rfl, w0⟩ := DataW.trod_int Try.underlying3 f0
  obtain ⟨N, e1, rfl, w1⟩ := DataW.trod_int Try.underlying3 f1
  obtain rfl : v0 = .int .i64 K := by simpa using e0
  obtain rfl : v1 = .int .i64 N := by simpa using e1
  refine ⟨b, o, rfl, K, N, ?_, ?_⟩
  · simpa [Addr.add_lit] using h0
  · simpa [Addr.add_lit] using hcell 1 (by omega)

theorem open_script {H : Type} {enc : TypeId × Value → H} {W : World} {fuel : Nat} {a : Option Addr} {n c : Nat} {d : DataW H} {ps : List MemPlace} (h : DataW.trod enc Try.prog W 0 (fun _ => true) true fuel 22 [.slice a n c] = some (d, ps))
    (hsz : ∀ y ∈ d.weights Try.prog 22, y ≤ 140737488351232) : ∃ S, Sc W a S ∧ S.length = n := by
  rcases DataW.trod_slice Try.underlying22 h with ⟨hcs, _⟩ | ⟨ad, len, cap, elems, rest, fu, rfl, hcs, hx, _, _, _, hel, hE, _, _⟩
  · simp at hcs
    exact ⟨[], ⟨.inl rfl, by simp⟩, hcs.2.1.symm⟩
  · simp only [List.cons.injEq, Value.slice.injEq, and_true] at hcs
    obtain ⟨rfl, rfl, rfl⟩ := hcs
    simp only [Prod.mk.injEq] at hx
    obtain ⟨rfl, _⟩ := hx
    have hw1 := hsz (((elems.map (·.1)).length + (rest.map (·.1)).length) * Try.prog.bytesOf 33) (by
      simp only [DataW.weights, Try.underlying22]; exact List.mem_cons_self)
    rw [bytes33] at hw1
    simp only [List.length_map] at hw1
    have hall : ∀ i, i < n → ∃ b o, ad.add (i * 2) = ⟨b, o, none⟩ ∧ ∃ K N, W.cell? ⟨b, o, none⟩ = some (.int .i64 K) ∧ W.cell? ⟨b, o + 1, none⟩ = some (.int .i64 N) := by
      intro i hi
      have he := hE i hi
      rw [cells33] at he
      have hlt : i < elems.length := by omega
      rw [List.getElem?_eq_getElem hlt] at he
      obtain ⟨cs, hc, ht⟩ := Option.bind_eq_some_iff.1 he
      exact open_op hc ht
    by_cases h0 : n = 0
    · exact ⟨[], ⟨.inl rfl, by simp⟩, h0.symm⟩
    · obtain ⟨b, o, hb, _⟩ := hall 0 (by omega)
      obtain ⟨b', o', sp⟩ := ad
      have hsp : sp = none := by
        have := congrArg Addr.spot hb
        simpa [Addr.add] using this
      subst hsp
      obtain ⟨S, hS, hq⟩ := choose_pairs (Q := fun i k m => W.cell? ⟨b', o' + i * 2, none⟩ = some (.int .i64 k) ∧ W.cell? ⟨b', o' + i * 2 + 1, none⟩ = some (.int .i64 m)) n (fun i hi => by
        obtain ⟨b2, o2, hb2, K, N, h1, h2⟩ := hall i hi
        rw [Addr.add_lit] at hb2
        simp only [Addr.mk.injEq, and_true] at hb2
        obtain ⟨rfl, rfl⟩ := hb2
        exact ⟨K, N, h1, h2⟩)
      exact ⟨S, ⟨.inr ⟨b', o', rfl, fun i hi => hq i (by omega)⟩, by omega⟩, hS⟩

/-- Behind a call on pages: what lies elsewhere stays. -/
theorem al_lst {w w2 : World} {p : Nat} {v v2 : Value} {L' K : List Rn} {r : Value} {e : Ending} (h : AlPost w p v L' r e w2) (hk : Lst w v2 K) (hp : v2.ownBlock ≠ some p) (hv : ∀ g, v.ownBlock = some g → v2.ownBlock ≠ some g) : Lst w2 v2 K := by
  obtain ⟨v', _, _, _, hX⟩ := h
  refine hk.keep hX ?_
  intro b hb
  simp only [List.mem_cons, Option.mem_toList] at hb
  rcases hb with rfl | hb
  · exact hp
  · exact hv b hb

theorem al_cases (L : List Rn) (m : Int) : (∃ er : Int, er ≠ 0 ∧ alR L m = (L, 0, er) ∧ (m < 1 ∧ er = 2 ∨ 1 ≤ m ∧ er = 7) ∧ ∀ j, j < L.length → (rnAt L j).u = true ∨ m < 1 ∨ ((rnAt L j).n : Int) < m) ∨
    (∃ i, i < L.length ∧ 1 ≤ m ∧ (rnAt L i).u = false ∧ m ≤ (rnAt L i).n ∧ alR L m = (takeL L i m.toNat, ((rnAt L i).s : Int), 0) ∧ ∀ j, j < i → (rnAt L j).u = true ∨ ((rnAt L j).n : Int) < m) := by
  by_cases h1 : m < 1
  · exact .inl ⟨2, by decide, by simp [alR, h1], .inl ⟨h1, rfl⟩, fun j _ => .inr (.inl h1)⟩
  · by_cases h2 : L.findIdx (fit m) < L.length
    · have hq := idx_at h2
      simp only [fit, Bool.and_eq_true, Bool.not_eq_true', decide_eq_true_eq] at hq
      refine .inr ⟨L.findIdx (fit m), h2, by omega, hq.1, hq.2, by simp [alR, h1, h2], fun j hj => ?_⟩
      have := idx_lt hj (by omega)
      simp only [fit, Bool.and_eq_false_iff, Bool.not_eq_false', decide_eq_false_iff_not] at this
      rcases this with h | h
      · exact .inl h
      · exact .inr (by omega)
    · refine .inl ⟨7, by decide, by simp [alR, h1, h2], .inr ⟨by omega, rfl⟩, fun j hj => ?_⟩
      have := idx_lt (q := fit m) (j := j) (L := L) (by have := List.findIdx_le_length (p := fit m) (xs := L); omega) hj
      simp only [fit, Bool.and_eq_false_iff, Bool.not_eq_false', decide_eq_false_iff_not] at this
      rcases this with h | h
      · exact .inl h
      · exact .inr (.inr (by omega))

end Go.Proofs.Ytkdgekdacinlhaa
