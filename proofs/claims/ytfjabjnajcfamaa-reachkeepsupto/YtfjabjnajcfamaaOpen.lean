/-
  What a walk is told of lists and nets that came in; no statement is proved here.
-/
import Derived.Test.YtfjabjnajcfamaaBase
import Derived.OpenShut
import Derived.ShutString
import Derived.ChangeOld
import Derived.SizedLaws
namespace Go.Proofs.Ytfjabjnajcfamaa
open Go.ChangeShapes Go.WideShapes Go.ChangeAt Go.RowKit

theorem own : ownKnob Try.prog.godebug = none := by kernel_rfl
theorem laidOut : laidOutB Try.prog = true := by kernel_rfl
theorem bytes3 : Try.prog.bytesOf 3 = 8 := by kernel_rfl
theorem bytes4 : Try.prog.bytesOf 4 = 1 := by kernel_rfl
theorem bytes23 : Try.prog.bytesOf 23 = 24 := by kernel_rfl
theorem cells3 : Try.prog.cellsOf 3 = 1 := by kernel_rfl
theorem cells4 : Try.prog.cellsOf 4 = 1 := by kernel_rfl
theorem cells23 : Try.prog.cellsOf 23 = 1 := by kernel_rfl

theorem weightsAll_mem {H : Type} {P : Program} {e : TypeId} : ∀ {l : List (DataW H)} {d : DataW H}, d ∈ l → ∀ n ∈ d.weights P e, n ∈ DataW.weightsAll P e l
  | x :: r, d, h, n, hn => by
    unfold DataW.weightsAll
    rcases List.mem_cons.1 h with rfl | h
    · exact List.mem_append.2 (.inl hn)
    · exact List.mem_append.2 (.inr (weightsAll_mem h n hn))

theorem pick_list {α : Type} (d : α) (p : Nat → α → Prop) : ∀ n, (∀ i, i < n → ∃ x, p i x) → ∃ l : List α, l.length = n ∧ ∀ i, i < n → p i (l.getD i d)
  | 0, _ => ⟨[], rfl, fun i hi => by omega⟩
  | n + 1, h => by
    obtain ⟨l, h1, h2⟩ := pick_list d p n (fun i hi => h i (by omega))
    obtain ⟨x, hx⟩ := h n (by omega)
    refine ⟨l ++ [x], by simp [h1], fun i hi => ?_⟩
    by_cases e : i = n
    · subst e; simpa [List.getD, ← h1] using hx
    · have := h2 i (by omega)
      simpa [List.getD, List.getElem?_append_left (show i < l.length by omega)] using this

/-- A list of ints out of its reading. -/
theorem open_list {H : Type} {enc : TypeId × Value → H} {W : World} {fuel : Nat} {v : Value} {x : DataW H × List MemPlace} (h : DataW.trod enc Try.prog W 0 (fun _ => true) true fuel 23 [v] = some x)
    (hsz : ∀ y ∈ x.1.weights Try.prog 23, y ≤ 140737488351232) : ∃ a c, ∃ xs : List Int, v = .slice a xs.length c ∧ Is W a xs ∧ xs.length ≤ c ∧ xs.length ≤ 17592186043904 ∧ c ≤ 17592186043904 := by
  rcases open_ints Try.underlying23 Try.underlying3 cells3 h with ⟨hcs, _⟩ | ⟨q, l, c, zs, hcs, _, hl, hm, hz, hx, hcl, hwz⟩
  · obtain rfl : v = .slice none 0 0 := by simpa using hcs
    exact ⟨none, 0, [], rfl, .inl rfl, by simp, by simp, by simp⟩
  · obtain rfl : v = .slice (some q) l c := by simpa using hcs
    simp only [if_true] at hz
    have hlen2 : (zs.take l).length = l := by simp; omega
    subst hx
    have := hsz (((lits (H := H) .i64 (zs.take l)).length + (lits (H := H) .i64 (zs.drop l)).length) * Try.prog.bytesOf 3) (by
      simp only [DataW.weights, Try.underlying23]
      exact List.mem_cons_self)
    rw [bytes3] at this
    simp only [lits, List.length_map, List.length_take, List.length_drop] at this
    refine ⟨some q, c, zs.take l, by simp only [hlen2], ?_, by rw [hlen2]; exact hl, by rw [hlen2]; omega, by omega⟩
    by_cases h0 : l = 0
    · left; simp [h0]
    · right
      obtain ⟨b, o, rfl, hc2⟩ := ints_at hcl (by omega)
      refine ⟨b, o, rfl, fun j hj => ?_⟩
      simp only [List.length_map, hlen2] at hj
      have hj2 : j < zs.length := by omega
      rw [hc2 j hj2]
      simp [List.getD, hj, hj2]

/-- A net out of its reading. -/
theorem open_net {H : Type} {enc : TypeId × Value → H} {W : World} {fuel : Nat} {a : Option Addr} {n c : Nat} {d : DataW H} {ps : List MemPlace} (h : DataW.trod enc Try.prog W 0 (fun _ => true) true fuel 22 [.slice a n c] = some (d, ps))
    (hsz : ∀ y ∈ d.weights Try.prog 22, y ≤ 140737488351232) : ∃ M : List (List Int), Nt W a M ∧ M.length = n ∧ n ≤ c := by
  rcases DataW.trod_slice Try.underlying22 h with ⟨hcs, _⟩ | ⟨ad, len, cap, elems, rest, fu, rfl, hcs, hx, _, hlc, _, hel, hE, _, _⟩
  · simp at hcs
    obtain ⟨_, rfl, rfl⟩ := hcs
    exact ⟨[], ⟨.inl rfl, by simp⟩, rfl, Nat.le_refl _⟩
  · simp only [List.cons.injEq, Value.slice.injEq, and_true] at hcs
    obtain ⟨rfl, rfl, rfl⟩ := hcs
    simp only [Prod.mk.injEq] at hx
    obtain ⟨rfl, _⟩ := hx
    have hw1 := hsz (((elems.map (·.1)).length + (rest.map (·.1)).length) * Try.prog.bytesOf 23) (by
      simp only [DataW.weights, Try.underlying22]; exact List.mem_cons_self)
    rw [bytes23] at hw1
    simp only [List.length_map] at hw1
    have hall : ∀ i, i < n → ∃ b o, ad.add (i * 1) = ⟨b, o, none⟩ ∧ ∃ xs : List Int, ∃ fa fc, W.cell? ⟨b, o, none⟩ = some (.slice fa xs.length fc) ∧ Is W fa xs ∧ xs.length ≤ fc ∧ xs.length ≤ 17592186044416 := by
      intro i hi
      have he := hE i hi
      rw [cells23] at he
      have hlt : i < elems.length := by omega
      rw [List.getElem?_eq_getElem hlt] at he
      obtain ⟨cs, hc, ht⟩ := Option.bind_eq_some_iff.1 he
      generalize ad.add (i * 1) = ad' at hc ⊢
      obtain ⟨_, hlen, hcell⟩ := World.cells?_some hc
      obtain ⟨v, rfl⟩ : ∃ v, cs = [v] := by
        match cs, hlen with
        | [v], _ => exact ⟨v, rfl⟩
      obtain ⟨fa, fc, xs, rfl, hI, h1, h2, _⟩ := open_list ht (fun y hy => hsz y (by
        simp only [DataW.weights, Try.underlying22]
        refine List.mem_cons_of_mem _ (List.mem_append.2 (.inl ?_))
        exact weightsAll_mem (List.mem_map.2 ⟨elems[i], List.getElem_mem hlt, rfl⟩) y hy))
      have h0 := hcell 0 (by omega)
      have hsp := World.cell?_spot h0
      obtain ⟨b, o, sp⟩ := ad'
      have hsp2 : sp = none := by simpa [Addr.add] using hsp
      subst hsp2
      exact ⟨b, _, rfl, xs, fa, fc, by simpa [Addr.add_lit] using h0, hI, h1, by omega⟩
    by_cases h0 : n = 0
    · exact ⟨[], ⟨.inl rfl, by simp⟩, by simp [h0], by omega⟩
    · obtain ⟨b, o, hb, _⟩ := hall 0 (by omega)
      obtain ⟨b', o', sp⟩ := ad
      have hsp : sp = none := by
        have := congrArg Addr.spot hb
        simpa [Addr.add] using this
      subst hsp
      obtain ⟨M, hM, hq⟩ := pick_list ([] : List Int) (fun i xs => ∃ fa fc, W.cell? ⟨b', o' + i, none⟩ = some (.slice fa xs.length fc) ∧ Is W fa xs ∧ xs.length ≤ fc ∧ xs.length ≤ 17592186044416) n (fun i hi => by
        obtain ⟨b2, o2, hb2, xs, fa, fc, h1, h2⟩ := hall i hi
        rw [Addr.add_lit] at hb2
        simp only [Addr.mk.injEq, and_true] at hb2
        obtain ⟨rfl, rfl⟩ := hb2
        rw [Nat.mul_one] at h1
        exact ⟨xs, fa, fc, h1, h2⟩)
      exact ⟨M, ⟨.inr ⟨b', o', rfl, fun i hi => hq i (by omega)⟩, by omega⟩, hM, by omega⟩

/-- A list of bools out of its reading. -/
theorem open_flags {H : Type} {enc : TypeId × Value → H} {W : World} {fuel : Nat} {a : Option Addr} {n c : Nat} {d : DataW H} {ps : List MemPlace} (h : DataW.trod enc Try.prog W 0 (fun _ => true) true fuel 25 [.slice a n c] = some (d, ps))
    (hsz : ∀ y ∈ d.weights Try.prog 25, y ≤ 140737488351232) : ∃ L : List Bool, Os W a L ∧ L.length = n ∧ n ≤ 140737488351232 := by
  rcases DataW.trod_slice Try.underlying25 h with ⟨hcs, _⟩ | ⟨ad, len, cap, elems, rest, fu, rfl, hcs, hx, _, hlc, _, hel, hE, _, _⟩
  · simp at hcs
    obtain ⟨_, rfl, rfl⟩ := hcs
    exact ⟨[], .inl rfl, rfl, by omega⟩
  · simp only [List.cons.injEq, Value.slice.injEq, and_true] at hcs
    obtain ⟨rfl, rfl, rfl⟩ := hcs
    simp only [Prod.mk.injEq] at hx
    obtain ⟨rfl, _⟩ := hx
    have hw1 := hsz (((elems.map (·.1)).length + (rest.map (·.1)).length) * Try.prog.bytesOf 4) (by
      simp only [DataW.weights, Try.underlying25]; exact List.mem_cons_self)
    rw [bytes4] at hw1
    simp only [List.length_map] at hw1
    have hall : ∀ i, i < n → ∃ b o, ad.add (i * 1) = ⟨b, o, none⟩ ∧ ∃ x : Bool, W.cell? ⟨b, o, none⟩ = some (.bool x) := by
      intro i hi
      have he := hE i hi
      rw [cells4] at he
      have hlt : i < elems.length := by omega
      rw [List.getElem?_eq_getElem hlt] at he
      obtain ⟨cs, hc, ht⟩ := Option.bind_eq_some_iff.1 he
      generalize ad.add (i * 1) = ad' at hc ⊢
      obtain ⟨_, hlen, hcell⟩ := World.cells?_some hc
      obtain ⟨x, rfl, _⟩ := DataW.trod_bool Try.underlying4 ht
      have h0 := hcell 0 (by omega)
      have hsp := World.cell?_spot h0
      obtain ⟨b, o, sp⟩ := ad'
      have hsp2 : sp = none := by simpa [Addr.add] using hsp
      subst hsp2
      exact ⟨b, _, rfl, x, by simpa [Addr.add_lit] using h0⟩
    by_cases h0 : n = 0
    · exact ⟨[], .inl rfl, by simp [h0], by omega⟩
    · obtain ⟨b, o, hb, _⟩ := hall 0 (by omega)
      obtain ⟨b', o', sp⟩ := ad
      have hsp : sp = none := by
        have := congrArg Addr.spot hb
        simpa [Addr.add] using this
      subst hsp
      obtain ⟨L, hL, hq⟩ := pick_list false (fun i x => W.cell? ⟨b', o' + i, none⟩ = some (.bool x)) n (fun i hi => by
        obtain ⟨b2, o2, hb2, x, h1⟩ := hall i hi
        rw [Addr.add_lit] at hb2
        simp only [Addr.mk.injEq, and_true] at hb2
        obtain ⟨rfl, rfl⟩ := hb2
        rw [Nat.mul_one] at h1
        exact ⟨x, h1⟩)
      refine ⟨L, .inr ⟨b', o', rfl, fun i hi => ?_⟩, hL, by omega⟩
      rw [List.length_map] at hi
      rw [hq i (by omega)]
      simp [hi]

end Go.Proofs.Ytfjabjnajcfamaa
