/-
  What a walk is told of the program's own table of sizes, of a script and of bytes that came in; no statement is proved here.
-/
import Derived.Test.YtlajjcboahflbaaDoorGwI
import Derived.Test.YtlajjcboahflbaaDoorTie
import Derived.OpenShut
import Derived.ShutString
import Derived.ChangeOld
import Derived.SizedLaws
import Derived.Lib.LaidU8
import Derived.Lay
import Derived.MakeChecks
import Derived.Handed
namespace Go.Proofs.YtlajjcboahflbaaDoor
open Go.ChangeShapes Go.WideShapes Go.ChangeAt Go.RowKit

theorem own : ownKnob Tryd.prog.godebug = none := by kernel_rfl
theorem laidOut : laidOutB Tryd.prog = true := by kernel_rfl
theorem bytes5 : Tryd.prog.bytesOf 5 = 1 := by kernel_rfl
theorem bytes77 : Tryd.prog.bytesOf 77 = 72 := by kernel_rfl
theorem cells77 : Tryd.prog.cellsOf 77 = 7 := by kernel_rfl
theorem cells3 : Tryd.prog.cellsOf 3 = 1 := by kernel_rfl
theorem cells59 : Tryd.prog.cellsOf 59 = 1 := by kernel_rfl
theorem cells40 : Tryd.prog.cellsOf 40 = 1 := by kernel_rfl
theorem cells5 : Tryd.prog.cellsOf 5 = 1 := by kernel_rfl

theorem gl_of {W : World} (hL : laidMetH Tryd.prog [("heddle/classes.slots", Rows.laid_heddle_classes_slots)] W) : Gl W := by
  rw [MakeChecks.laidMetH_plain _ _ _ (by kernel_rfl)] at hL
  obtain ⟨g, t, cs, fuel, p, hg, hty, hvar, hd⟩ := Lib.laidMet.reads hL (.head _)
  obtain rfl := Option.some.inj ((show Tryd.prog.globalNamed "heddle/classes.slots" = some 0 by kernel_rfl).symm.trans hg)
  obtain rfl := Option.some.inj ((show (Tryd.prog.globals[0]?).map (·.type) = some 142 by kernel_rfl).symm.trans hty)
  have hcs : cs.toList = [8, 16, 24, 32, 48, 64, 96, 128].map (Value.int .i64) := Lib.cells_of_tab (k := .i64) (zs := [8, 16, 24, 32, 48, 64, 96, 128]) Tryd.underlying142 Tryd.underlying3 cells3 (by kernel_rfl) hd
  intro k hk
  rw [World.var?_cell hg hvar k, ← Array.getElem?_toList, hcs]
  rcases k8 (by omega : k < 8) with rfl | rfl | rfl | rfl | rfl | rfl | rfl | rfl <;> rfl

/-- A slice of integers that came in: nil, or a row of cap cells of which the first len are its elements. -/
def IsRow (k : IntKind) (w : World) (a : Option Addr) (len cap : Nat) (zs : List Int) : Prop :=
  (a = none ∧ len = 0 ∧ cap = 0 ∧ zs = []) ∨
  ∃ x, a = some x ∧ len ≤ cap ∧ cap ≤ maxLen ∧ zs.length = cap ∧ (∀ i, i < zs.length → w.cell? (x.add i) = some (.int k (zs.getD i 0))) ∧ ∀ n ∈ zs, (Lit.int k n).wf = true

theorem IsRow.sl {w : World} {a : Option Addr} {len cap : Nat} {zs : List Int} (h : IsRow .u8 w a len cap zs) : Sl w a (zs.take len) ∧ (zs.take len).length = len ∧ len ≤ maxLen := by
  rcases h with ⟨rfl, rfl, rfl, rfl⟩ | ⟨x, rfl, hl, hm, hz, hc, hw⟩
  · exact ⟨⟨.inl rfl, by intro x hx; simp at hx⟩, rfl, Nat.zero_le _⟩
  · have hlen : (zs.take len).length = len := by simp; omega
    refine ⟨⟨?_, ?_⟩, hlen, by omega⟩
    · by_cases h0 : len = 0
      · left; rw [h0]; rfl
      · right
        obtain ⟨b, o, rfl, hc2⟩ := ints_at hc (by omega)
        refine ⟨b, o, rfl, fun j hj => ?_⟩
        rw [hlen] at hj
        rw [hc2 j (by omega)]
        simp [List.getD, hj]
    · intro n hn
      have := hw n (List.mem_of_mem_take hn)
      have h2 := bounds_u8 this
      omega

theorem i64_of_wf {n : Int} (h : (Lit.int .i64 n).wf = true) : I64 n := by
  have := bounds_i64 h
  unfold I64; omega
theorem u64_of_wf {n : Int} (h : (Lit.int .u64 n).wf = true) : 0 ≤ n ∧ n < 18446744073709551616 := by
  have := bounds_u64 h
  omega


theorem weightsAll_mem {H : Type} {P : Program} {e : TypeId} : ∀ {l : List (DataW H)} {d : DataW H}, d ∈ l → ∀ n ∈ d.weights P e, n ∈ DataW.weightsAll P e l
  | x :: r, d, h, n, hn => by
    unfold DataW.weightsAll
    rcases List.mem_cons.1 h with rfl | h
    · exact List.mem_append.2 (.inl hn)
    · exact List.mem_append.2 (.inr (weightsAll_mem h n hn))

set_option maxRecDepth 100000 in
/-- One call of the script, out of its reading. -/
theorem open_op {H : Type} {enc : TypeId × Value → H} {W : World} {fuel : Nat} {ad : Addr} {cs : List Value} {x : DataW H × List MemPlace} (hc : W.cells? 0 ad 7 = some cs) (h : DataW.trod enc Tryd.prog W 0 (fun _ => true) true fuel 77 cs = some x)
    (hsz : ∀ y ∈ x.1.weights Tryd.prog 77, y ≤ 140737488351232) : ∃ b o, ad = ⟨b, o, none⟩ ∧ ∃ q a c, OqAt W b o q a c := by
  obtain ⟨_, hlen, hcell⟩ := World.cells?_some hc
  obtain ⟨v0, v1, v2, v3, v4, v5, v6, rfl⟩ : ∃ v0 v1 v2 v3 v4 v5 v6, cs = [v0, v1, v2, v3, v4, v5, v6] := by
    match cs, hlen with
    | [v0, v1, v2, v3, v4, v5, v6], _ => exact ⟨v0, v1, v2, v3, v4, v5, v6, rfl⟩
  obtain ⟨xs, n, rfl, rfl, _, hxl, hf⟩ := DataW.trod_struct Tryd.underlying77 h
  have h0 := hcell 0 (by omega)
  have hsp := World.cell?_spot h0
  obtain ⟨b, o, sp⟩ := ad
  have hsp2 : sp = none := by simpa [Addr.add] using hsp
  subst hsp2
  have f0 : DataW.trod enc Tryd.prog W 0 (fun _ => true) true n 3 (([v0, v1, v2, v3, v4, v5, v6].drop 0).take (Tryd.prog.cellsOf 3)) = xs[0]? := hf 0 _ rfl
  rw [cells3] at f0
  have f1 : DataW.trod enc Tryd.prog W 0 (fun _ => true) true n 3 (([v0, v1, v2, v3, v4, v5, v6].drop 1).take (Tryd.prog.cellsOf 3)) = xs[1]? := hf 1 _ rfl
  rw [cells3] at f1
  have f2 : DataW.trod enc Tryd.prog W 0 (fun _ => true) true n 3 (([v0, v1, v2, v3, v4, v5, v6].drop 2).take (Tryd.prog.cellsOf 3)) = xs[2]? := hf 2 _ rfl
  rw [cells3] at f2
  have f3 : DataW.trod enc Tryd.prog W 0 (fun _ => true) true n 3 (([v0, v1, v2, v3, v4, v5, v6].drop 3).take (Tryd.prog.cellsOf 3)) = xs[3]? := hf 3 _ rfl
  rw [cells3] at f3
  have f4 : DataW.trod enc Tryd.prog W 0 (fun _ => true) true n 3 (([v0, v1, v2, v3, v4, v5, v6].drop 4).take (Tryd.prog.cellsOf 3)) = xs[4]? := hf 4 _ rfl
  rw [cells3] at f4
  have f5 : DataW.trod enc Tryd.prog W 0 (fun _ => true) true n 59 (([v0, v1, v2, v3, v4, v5, v6].drop 5).take (Tryd.prog.cellsOf 59)) = xs[5]? := hf 5 _ rfl
  rw [cells59] at f5
  have f6 : DataW.trod enc Tryd.prog W 0 (fun _ => true) true n 40 (([v0, v1, v2, v3, v4, v5, v6].drop 6).take (Tryd.prog.cellsOf 40)) = xs[6]? := hf 6 _ rfl
  rw [cells40] at f6
  have hxl7 : xs.length = 7 := hxl
  obtain ⟨x0, x1, x2, x3, x4, x5, x6, rfl⟩ : ∃ x0 x1 x2 x3 x4 x5 x6, xs = [x0, x1, x2, x3, x4, x5, x6] := by
    match xs, hxl7 with
    | [x0, x1, x2, x3, x4, x5, x6], _ => exact ⟨x0, x1, x2, x3, x4, x5, x6, rfl⟩
  obtain ⟨K, e0, rfl, w0⟩ := DataW.trod_int Tryd.underlying3 f0
  obtain ⟨A, e1, rfl, w1⟩ := DataW.trod_int Tryd.underlying3 f1
  obtain ⟨O, e2, rfl, w2⟩ := DataW.trod_int Tryd.underlying3 f2
  obtain ⟨M, e3, rfl, w3⟩ := DataW.trod_int Tryd.underlying3 f3
  obtain ⟨G, e4, rfl, w4⟩ := DataW.trod_int Tryd.underlying3 f4
  obtain ⟨V, e5, rfl, w5⟩ := DataW.trod_int Tryd.underlying59 f5
  obtain rfl : v0 = .int .i64 K := by simpa using e0
  obtain rfl : v1 = .int .i64 A := by simpa using e1
  obtain rfl : v2 = .int .i64 O := by simpa using e2
  obtain rfl : v3 = .int .i64 M := by simpa using e3
  obtain rfl : v4 = .int .i64 G := by simpa using e4
  obtain rfl : v5 = .int .u64 V := by simpa using e5
  obtain ⟨a, m, c, zs, rfl, hrow, hm⟩ : ∃ a m c zs, v6 = .slice a m c ∧ IsRow .u8 W a m c zs ∧ m ≤ 140737488351232 := by
    rcases open_ints Tryd.underlying40 Tryd.underlying5 cells5 f6 with ⟨hcs, _⟩ | ⟨q, l, c, zs, hcs, _, hl, hm, hz, hx, hcl, hwz⟩
    · have hcs : v6 = .slice none 0 0 := by simpa using hcs
      exact ⟨none, 0, 0, [], hcs, .inl ⟨rfl, rfl, rfl, rfl⟩, by omega⟩
    · have hcs : v6 = .slice (some q) l c := by simpa using hcs
      simp only [if_true] at hz
      refine ⟨some q, l, c, zs, hcs, .inr ⟨q, rfl, hl, hm, hz, hcl, hwz⟩, ?_⟩
      subst hx
      have := hsz (((lits (H := H) .u8 (zs.take l)).length + (lits (H := H) .u8 (zs.drop l)).length) * Tryd.prog.bytesOf 5) (by
        simp only [DataW.weights, Tryd.underlying77]
        refine DataW.weights_mem_each (ts := [3, 3, 3, 3, 3, 59, 40]) (j := 6) (t := 40) rfl rfl _ ?_
        simp only [DataW.weights, Tryd.underlying40]
        exact List.mem_cons_self)
      rw [bytes5] at this
      simp only [lits, List.length_map, List.length_take, List.length_drop] at this
      omega
  have hsl := hrow.sl
  have hml : (zs.take m).length = m := hsl.2.1
  refine ⟨b, o, rfl, ⟨K, A, O, M, G, V, zs.take m⟩, a, c, ?_, ?_, ?_, ?_, ?_, ?_, ?_, i64_of_wf w2, u64_of_wf w5, hsl.1, by rw [hml]; exact hm⟩
  · simpa [Addr.add_lit] using h0
  · simpa [Addr.add_lit] using hcell 1 (by omega)
  · simpa [Addr.add_lit] using hcell 2 (by omega)
  · simpa [Addr.add_lit] using hcell 3 (by omega)
  · simpa [Addr.add_lit] using hcell 4 (by omega)
  · simpa [Addr.add_lit] using hcell 5 (by omega)
  · have h6 := hcell 6 (by omega)
    rw [show (⟨K, A, O, M, G, V, zs.take m⟩ : Oq).b.length = m from hml]
    simpa [Addr.add_lit] using h6

theorem open_script {H : Type} {enc : TypeId × Value → H} {W : World} {fuel : Nat} {a : Option Addr} {n c : Nat} {d : DataW H} {ps : List MemPlace} (h : DataW.trod enc Tryd.prog W 0 (fun _ => true) true fuel 22 [.slice a n c] = some (d, ps))
    (hsz : ∀ y ∈ d.weights Tryd.prog 22, y ≤ 140737488351232) : ∃ S : List Oq, S.length = n ∧ Sc W a S := by
  rcases DataW.trod_slice Tryd.underlying22 h with ⟨hcs, _⟩ | ⟨ad, len, cap, elems, rest, fu, rfl, hcs, hx, _, _, _, hel, hE, _, _⟩
  · simp at hcs
    exact ⟨[], by simp [hcs.2.1], .inl rfl, by simp⟩
  · simp only [List.cons.injEq, Value.slice.injEq, and_true] at hcs
    obtain ⟨rfl, rfl, rfl⟩ := hcs
    simp only [Prod.mk.injEq] at hx
    obtain ⟨rfl, _⟩ := hx
    have hw1 := hsz (((elems.map (·.1)).length + (rest.map (·.1)).length) * Tryd.prog.bytesOf 77) (by
      simp only [DataW.weights, Tryd.underlying22]; exact List.mem_cons_self)
    rw [bytes77] at hw1
    simp only [List.length_map] at hw1
    have hall : ∀ i, i < n → ∃ b o, ad.add (i * 7) = ⟨b, o, none⟩ ∧ ∃ q a c, OqAt W b o q a c := by
      intro i hi
      have he := hE i hi
      rw [cells77] at he
      have hlt : i < elems.length := by omega
      rw [List.getElem?_eq_getElem hlt] at he
      obtain ⟨cs, hc, ht⟩ := Option.bind_eq_some_iff.1 he
      refine open_op hc ht (fun y hy => hsz y ?_)
      simp only [DataW.weights, Tryd.underlying22]
      refine List.mem_cons_of_mem _ (List.mem_append.2 (.inl ?_))
      exact weightsAll_mem (List.mem_map.2 ⟨elems[i], List.getElem_mem hlt, rfl⟩) y hy
    by_cases h0 : n = 0
    · subst h0; exact ⟨[], rfl, .inl rfl, by simp⟩
    · obtain ⟨b, o, hb, _⟩ := hall 0 (by omega)
      obtain ⟨b', o', sp⟩ := ad
      have hsp : sp = none := by
        have := congrArg Addr.spot hb
        simpa [Addr.add] using this
      subst hsp
      have hall2 : ∀ i : Fin n, ∃ q, ∃ a c, OqAt W b' (o' + i.val * 7) q a c := fun i => by
        obtain ⟨b2, o2, hb2, q, a, c, hop⟩ := hall i.val i.isLt
        rw [Addr.add_lit] at hb2
        simp only [Addr.mk.injEq, and_true] at hb2
        obtain ⟨rfl, rfl⟩ := hb2
        exact ⟨q, a, c, hop⟩
      obtain ⟨f, hf⟩ := Classical.axiomOfChoice hall2
      refine ⟨List.ofFn f, by simp, .inr ⟨b', o', rfl, fun i hi => ?_⟩, by simp; omega⟩
      simp only [List.length_ofFn] at hi
      obtain ⟨a, c, hop⟩ := hf ⟨i, hi⟩
      refine ⟨a, c, ?_⟩
      have : oqAt (List.ofFn f) i = f ⟨i, hi⟩ := by simp [oqAt, List.getD, hi]
      rw [this]; exact hop

/-- Bytes that came in. -/
theorem open_bytes {H : Type} {enc : TypeId × Value → H} {W : World} {fuel : Nat} {a : Option Addr} {n c : Nat} {d : DataW H} {ps : List MemPlace} (h : DataW.trod enc Tryd.prog W 0 (fun _ => true) true fuel 40 [.slice a n c] = some (d, ps))
    (hsz : ∀ y ∈ d.weights Tryd.prog 40, y ≤ 140737488351232) : ∃ X : List Int, X.length = n ∧ Sl W a X ∧ n ≤ 140737488351232 := by
  rcases open_ints Tryd.underlying40 Tryd.underlying5 cells5 h with ⟨hcs, _⟩ | ⟨q, l, c2, zs, hcs, _, hl, hm, hz, hx, hcl, hwz⟩
  · simp at hcs
    exact ⟨[], by simp [hcs.2.1], ⟨.inl rfl, by intro x hx; simp at hx⟩, by omega⟩
  · simp only [List.cons.injEq, Value.slice.injEq, and_true] at hcs
    obtain ⟨rfl, rfl, rfl⟩ := hcs
    simp only [if_true] at hz
    have hrow : IsRow .u8 W (some q) n c zs := .inr ⟨q, rfl, hl, hm, hz, hcl, hwz⟩
    have hsl := hrow.sl
    refine ⟨zs.take n, hsl.2.1, hsl.1, ?_⟩
    simp only [Prod.mk.injEq] at hx
    obtain ⟨rfl, _⟩ := hx
    have := hsz (((lits (H := H) .u8 (zs.take n)).length + (lits (H := H) .u8 (zs.drop n)).length) * Tryd.prog.bytesOf 5) (by
        simp only [DataW.weights, Tryd.underlying40]
        exact List.mem_cons_self)
    rw [bytes5] at this
    simp only [lits, List.length_map, List.length_take, List.length_drop] at this
    omega

end Go.Proofs.YtlajjcboahflbaaDoor
