/-
  OpenP, RfZ: joined by program; no statement is proved here.
-/
import Derived.Test.YtkknadkcpndnaaaDoorZU
import Derived.Test.YtkknadkcpndnaaaDoorZWF
import Derived.Test.YtkknadkcpndnaaaDoorZT
/-
  An operation that came in by value, out of its reading; no statement is proved here.
-/
namespace Go.Proofs.YtkknadkcpndnaaaDoor
open Go.ChangeShapes Go.WideShapes Go.ChangeAt Go.RowKit

set_option maxRecDepth 100000 in
theorem open_par {H : Type} {enc : TypeId × Value → H} {W : World} {base : Nat} {v : Value} {d : DataW H} {ps : List MemPlace} (hval : Value.okWide Tryd.prog W .any base 25 v) (h : DataW.Trod enc Tryd.prog W 0 (fun _ => true) true 25 v d ps) :
    ∃ (ok og : Int) (oh od : Nat), v = .agg #[.int .i64 ok, .int .i64 og, .int .u64 (oh : Nat), .int .u64 (od : Nat)] ∧ oh < 18446744073709551616 ∧ od < 18446744073709551616 := by
  obtain ⟨cs, rfl, hcs⟩ := okWide_struct Tryd.underlying25 hval
  rw [cells25] at hcs
  obtain ⟨fuel, h⟩ := h
  have h' : DataW.trod enc Tryd.prog W 0 (fun _ => true) true fuel 25 cs.toList = some (d, ps) := by simpa [Value.cells] using h
  obtain ⟨L, rfl⟩ : ∃ L : List Value, cs = L.toArray := ⟨cs.toList, by simp⟩
  obtain ⟨v0, v1, v2, v3, rfl⟩ : ∃ v0 v1 v2 v3, L = [v0, v1, v2, v3] := by
    match L, (show L.length = 4 by simpa using hcs) with
    | [v0, v1, v2, v3], _ => exact ⟨v0, v1, v2, v3, rfl⟩
  obtain ⟨xs, k, rfl, _, _, hxl, hf⟩ := DataW.trod_struct Tryd.underlying25 h'
  have f0 : DataW.trod enc Tryd.prog W 0 (fun _ => true) true k 3 (([v0, v1, v2, v3].drop 0).take (Tryd.prog.cellsOf 3)) = xs[0]? := hf 0 _ rfl
  rw [cells3] at f0
  have f1 : DataW.trod enc Tryd.prog W 0 (fun _ => true) true k 3 (([v0, v1, v2, v3].drop 1).take (Tryd.prog.cellsOf 3)) = xs[1]? := hf 1 _ rfl
  rw [cells3] at f1
  have f2 : DataW.trod enc Tryd.prog W 0 (fun _ => true) true k 23 (([v0, v1, v2, v3].drop 2).take (Tryd.prog.cellsOf 23)) = xs[2]? := hf 2 _ rfl
  rw [cells23] at f2
  have f3 : DataW.trod enc Tryd.prog W 0 (fun _ => true) true k 23 (([v0, v1, v2, v3].drop 3).take (Tryd.prog.cellsOf 23)) = xs[3]? := hf 3 _ rfl
  rw [cells23] at f3
  have hxl4 : xs.length = 4 := hxl
  obtain ⟨x0, x1, x2, x3, rfl⟩ : ∃ x0 x1 x2 x3, xs = [x0, x1, x2, x3] := by
    match xs, hxl4 with
    | [x0, x1, x2, x3], _ => exact ⟨x0, x1, x2, x3, rfl⟩
  obtain ⟨K, e0, rfl, _⟩ := DataW.trod_int Tryd.underlying3 f0
  obtain ⟨M, e1, rfl, _⟩ := DataW.trod_int Tryd.underlying3 f1
  obtain ⟨A, e2, rfl, w2⟩ := DataW.trod_int Tryd.underlying23 f2
  obtain ⟨B, e3, rfl, w3⟩ := DataW.trod_int Tryd.underlying23 f3
  obtain rfl : v0 = .int .i64 K := by simpa using e0
  obtain rfl : v1 = .int .i64 M := by simpa using e1
  obtain ⟨nh, rfl, hnh⟩ := u64_nat w2
  obtain ⟨nd, rfl, hnd⟩ := u64_nat w3
  obtain rfl : v2 = .int .u64 (nh : Nat) := by simpa using e2
  obtain rfl : v3 = .int .u64 (nd : Nat) := by simpa using e3
  exact ⟨K, M, nh, nd, rfl, hnh, hnd⟩
end Go.Proofs.YtkknadkcpndnaaaDoor

/-
  The walk of TableWords, and words out of their reading; no statement is proved here.
-/
namespace Go.Proofs.YtkknadkcpndnaaaDoor.Rf
open Go.ChangeShapes Go.WideShapes Go.ChangeAt Go.RowKit
open Pr (Gp GpI sq)

theorem wordsWalk (a : Option Addr) (n c : Nat) (T : List Nat) (k M : Int) (h d : Nat) (hn : T.length = n) (hnb : n ≤ 17592186044416) (hlt : ∀ x ∈ T, x < 18446744073709551616) (hh : h < 18446744073709551616) (hd : d < 18446744073709551616) (w : World) (hT : Wd w a T) (hTb : Tb w) :
    Calls Tryd.prog 3 #[.slice a n c, .agg #[.int .i64 k, .int .i64 M, .int .u64 (h : Nat), .int .u64 (d : Nat)]] w (SayPost w (.bool true)) := by
  by_cases hS : ∃ G, Sd T G
  · obtain ⟨G, hS⟩ := hS
    obtain rfl : n = 3 + 17 * G := by rw [← hn, hS.shp.len]
    obtain ⟨b, o, rfl, _⟩ := hT.at_ (by rintro rfl; have := hS.shp.len; simp at this; omega)
    by_cases hM : GpI M
    · obtain ⟨m, rfl, hm⟩ := hM
      refine words_yes b o c G T k m h d (GrP T G m) 7 (3 + 17 * m) hS hh hd w hT hTb (fun u a1 c1 hu hw => (tgrow_any a1 c1 T G m hS hm u hw (hTb.keep0 hu)).mono (fun _ _ hp => gro_a hp)) (fun u va vn vc er hu hr => ?_)
      refine alike_grow T G b o c va vn vc er k m h d hS hm u (hT.keep0 hu) ?_
      rcases hr with ⟨X, h1, h2, h3, h4⟩ | ⟨h1, h2, h3⟩
      · exact .inl ⟨X, h1, h2, h3, h4⟩
      · exact .inr ⟨h1, h2, h3⟩
    · refine words_yes b o c G T k M h d (fun O => O = none) 2 0 hS hh hd w hT hTb (fun u a1 c1 hu hw => (tgrow_bad a1 c1 T G M hS hM u hw).mono (fun _ _ hp => bad_a hp)) (fun u va vn vc er hu hr => ?_)
      refine alike_bad T G b o c va vn vc er k M h d hS hM u (hT.keep0 hu) ?_
      rcases hr with ⟨X, h1, _⟩ | ⟨_, h2, h3⟩
      · cases h1
      · exact ⟨h2, h3⟩
  · exact words_no a n c T k M h d ⟨hn, hnb, hlt, fun G hG => hS ⟨G, hG⟩⟩ hh hd w hT
theorem bytes23 : Tryd.prog.bytesOf 23 = 8 := by kernel_rfl
set_option maxRecDepth 100000 in
theorem open_words {H : Type} {enc : TypeId × Value → H} {W : World} {fuel : Nat} {a : Option Addr} {n c : Nat} {d : DataW H} {ps : List MemPlace} (h : DataW.trod enc Tryd.prog W 0 (fun _ => true) true fuel 22 [.slice a n c] = some (d, ps))
    (hsz : ∀ y ∈ d.weights Tryd.prog 22, y ≤ 140737488351232) : ∃ T : List Nat, T.length = n ∧ Wd W a T ∧ (∀ x ∈ T, x < 18446744073709551616) ∧ n ≤ 17592186044416 := by
  rcases DataW.trod_slice Tryd.underlying22 h with ⟨hcs, _⟩ | ⟨ad, len, cap, elems, rest, fu, rfl, hcs, hx, _, _, _, hel, hE, _, _⟩
  · simp at hcs
    exact ⟨[], by simp [hcs.2.1], .inl rfl, by simp, by omega⟩
  · simp only [List.cons.injEq, Value.slice.injEq, and_true] at hcs
    obtain ⟨rfl, rfl, rfl⟩ := hcs
    simp only [Prod.mk.injEq] at hx
    obtain ⟨rfl, _⟩ := hx
    have hw1 := hsz (((elems.map (·.1)).length + (rest.map (·.1)).length) * Tryd.prog.bytesOf 23) (by
      simp only [DataW.weights, Tryd.underlying22]; exact List.mem_cons_self)
    rw [bytes23] at hw1
    simp only [List.length_map] at hw1
    have hall : ∀ i, i < n → ∃ q : Nat, q < 18446744073709551616 ∧ W.cell? (ad.add i) = some (.int .u64 (q : Nat)) ∧ (i = 0 → ad.spot = none) := by
      intro i hi
      have he := hE i hi
      rw [cells23] at he
      have hlt : i < elems.length := by omega
      rw [List.getElem?_eq_getElem hlt] at he
      obtain ⟨cs, hc, ht⟩ := Option.bind_eq_some_iff.1 he
      obtain ⟨_, hlen, hcell⟩ := World.cells?_some hc
      obtain ⟨v0, rfl⟩ : ∃ v0, cs = [v0] := by
        match cs, hlen with
        | [v0], _ => exact ⟨v0, rfl⟩
      obtain ⟨A, e0, _, w0⟩ := DataW.trod_int Tryd.underlying23 ht
      obtain ⟨q, rfl, hq⟩ := u64_nat w0
      obtain rfl : v0 = .int .u64 (q : Nat) := by simpa using e0
      have h0 := hcell 0 (by omega)
      rw [Nat.mul_one] at h0
      have h0' : W.cell? (ad.add i) = some (.int .u64 (q : Nat)) := by simpa [Addr.add] using h0
      have hsp := World.cell?_spot h0'
      exact ⟨q, hq, h0', fun hi0 => by subst hi0; simpa [Addr.add] using hsp⟩
    by_cases h0 : n = 0
    · subst h0; exact ⟨[], rfl, .inl rfl, by simp, by omega⟩
    · obtain ⟨_, _, _, hsp⟩ := hall 0 (by omega)
      have hsp := hsp rfl
      obtain ⟨b, o, sp⟩ := ad
      simp only at hsp
      subst hsp
      have hall2 : ∀ i : Fin n, ∃ q : Nat, q < 18446744073709551616 ∧ W.cell? ⟨b, o + i.val, none⟩ = some (.int .u64 (q : Nat)) := fun i => by
        obtain ⟨q, h1, h2, _⟩ := hall i.val i.isLt
        rw [Addr.add_lit] at h2
        exact ⟨q, h1, h2⟩
      obtain ⟨f, hf⟩ := Classical.axiomOfChoice hall2
      refine ⟨List.ofFn f, by simp, .inr ⟨b, o, rfl, fun j hj => ?_⟩, fun x hx => ?_, by omega⟩
      · rw [vw_len] at hj
        rw [vw_at _ hj]
        have hjn : j < n := by simpa using hj
        rw [(hf ⟨j, hjn⟩).2, List.getD_eq_getElem?_getD, List.getElem?_ofFn]
        simp [hjn]
      · obtain ⟨i, rfl⟩ := List.mem_ofFn.1 hx
        exact (hf i).1
end Go.Proofs.YtkknadkcpndnaaaDoor.Rf
