/-
  What TypesKeeps needs of memory; no statement is proved here.
-/
import Derived.Test.YtfjbhpjgidgjaaaDoorRefU
import Derived.Test.YtfjbhpjgidgjaaaDoorRoom
import Derived.Test.YtfjbhpjgidgjaaaDoorApartE
import Derived.Deep.RegionLaw
import Derived.Deep.AppendLies
namespace Go.Proofs.YtfjbhpjgidgjaaaDoor
open Go.ChangeShapes Go.WideShapes Go.ChangeAt Go.RowKit

/-- Each type's fields with spare room in a row of its own. -/
def Fm (w0 w : World) (ts : List Ty) (G : Nat → Option Addr × Nat) (k : Nat) : Prop := ∀ i, i < k → ∃ g, (G i).1 = some ⟨g, 0, none⟩ ∧ Rm w0 w g (tyAt ts i).fields.length (G i).2 (tyAt ts i).fields

theorem Rm.keep {S : List Nat} {w0 w w' : World} {g k cap : Nat} {fs : List Int} (h : Rm w0 w g k cap fs) (x : Ext S w w') (hs : ∀ b ∈ S, g ≠ b) : Rm w0 w' g k cap fs :=
  ⟨h.1, own_keep h.2 x (fun b hb => by simpa [Value.ownBlock] using hs b hb)⟩
theorem Fm.keep0 {w0 w w' : World} {ts : List Ty} {G : Nat → Option Addr × Nat} {k : Nat} (h : Fm w0 w ts G k) (x : Ext [] w w') : Fm w0 w' ts G k := fun i hi => by
  obtain ⟨g, h1, h2⟩ := h i hi
  exact ⟨g, h1, h2.keep x (by simp)⟩

/-- A table out of its rows. -/
theorem tab_rows {w0 w : World} {a : Option Addr} {n c : Nat} {ts : List Ty} {G : Nat → Option Addr × Nat} (hO : w.ownsRow w0.heap.size 48 5 (.slice a n c) n (rows ts G n)) (hn : ts.length = n) (hl : n ≤ 2513169434843) (hf : ∀ i, i < n → Is w (G i).1 (tyAt ts i).fields ∧ (tyAt ts i).fields.length ≤ 17592186044416) : Tab w a ts := by
  subst hn
  refine ⟨?_, hl⟩
  rcases hO.2 with ⟨h1, h2⟩ | ⟨g, cap, cur, h0, h1, h2, h3, h4, h5, h6⟩
  · left; exact List.length_eq_zero_iff.1 h2
  · right
    cases h0
    refine ⟨g, 0, rfl, fun i hi => ⟨(G i).1, (G i).2, ?_⟩⟩
    have key : ∀ j v, j < 5 → (tyRow (tyAt ts i) (G i))[j]? = some v → w.cell? ⟨g, 0 + i * 5 + j, none⟩ = some v := fun j v hj hv => by
      rw [Nat.zero_add, cell_of_row w g _ _ _ _ h2]
      have : (cur.toList.take (ts.length * 5))[i * 5 + j]? = cur[i * 5 + j]? := by
        rw [List.getElem?_take, if_pos (by omega)]; simp
      rw [← this, h6, rows_get ts G _ i j hi hj, hv]
    exact ⟨key 0 _ (by omega) rfl, key 1 _ (by omega) rfl, key 2 _ (by omega) rfl, key 3 _ (by omega) rfl, key 4 _ (by omega) rfl, (hf i hi).1, (hf i hi).2⟩

/-- append of one type onto a slice of one's own, however long. -/
theorem app5l (w : World) (base : Nat) (hbs : base ≤ w.heap.size) (lv : Value) (k : Nat) (xs : List Value) (hown : w.ownsRow base 48 5 lv k xs) (g : Nat) (t : Ty) (r : Option Addr × Nat) (hc : w.heap[g]? = some (.cells #[.int .i64 t.kind, .int .i64 t.elem, .int .i64 t.key, .int .i64 t.len, .slice r.1 t.fields.length r.2] 48 (0, 0))) (hk : k + 1 ≤ 2513169434843) :
    ∃ v' w', (Builtin.append_ #[22, 22] 22 #[lv, .slice (some ⟨g, 0, none⟩) 1 1]).run Tryd.prog w = .ok v' w' ∧ w'.ownsRow base 48 5 v' (k + 1) (xs ++ tyRow t r) ∧ Ext lv.ownBlock.toList w w' := by
  obtain ⟨i, hi0, hz0, hz1, hz2⟩ := info_parts info48
  obtain ⟨v', w', hr, ho, hg, _⟩ := run_append_own (P := Tryd.prog) w base 22 22 48 i _ 5 56 Tryd.underlying22 hi0 hz0 hz1 hz2 rfl (by decide) _ k xs hown ⟨g, 0, none⟩ 1 1 (tyRow t r) rfl (fun j u hu => by
    rw [Addr.add_lit, cell_of_row _ _ _ _ _ _ hc, Nat.zero_add, ← hu]; simp [tyRow]) (by simp [tyRow, Value.oneCell']) (by unfold maxLen; omega) (by omega) hbs
  exact ⟨v', w', hr, ho, Ext.grown hg (by intro k hk; simp [hk])⟩

theorem rows_next (ts : List Ty) (G : Nat → Option Addr × Nat) (g : Option Addr × Nat) (k : Nat) : rows ts G k ++ tyRow (tyAt ts k) g = rows ts (fun i => if i = k then g else G i) (k + 1) := by
  rw [rows, rows_cong k (H := fun i => if i = k then g else G i) (fun i hi => by simp [Nat.ne_of_lt hi])]
  simp

/-- The cells of a row of types. -/
theorem rows_cells {w : World} {base : Nat} {a : Option Addr} {n c : Nat} {ts : List Ty} {G : Nat → Option Addr × Nat} (hO : w.ownsRow base 48 5 (.slice a n c) n (rows ts G n)) (h0 : 0 < n) : ∃ g, a = some ⟨g, 0, none⟩ ∧ ∀ i, i < n → w.cell? ⟨g, i * 5, none⟩ = some (.int .i64 (tyAt ts i).kind) ∧ w.cell? ⟨g, i * 5 + 4, none⟩ = some (.slice (G i).1 (tyAt ts i).fields.length (G i).2) := by
  rcases hO.2 with ⟨h1, h2⟩ | ⟨g, cap, cur, h0, h1, h2, h3, h4, h5, h6⟩
  · omega
  · cases h0
    refine ⟨g, rfl, fun i hi => ?_⟩
    have key : ∀ j v, j < 5 → (tyRow (tyAt ts i) (G i))[j]? = some v → w.cell? ⟨g, i * 5 + j, none⟩ = some v := fun j v hj hv => by
      rw [cell_of_row w g _ _ _ _ h2]
      have : (cur.toList.take (n * 5))[i * 5 + j]? = cur[i * 5 + j]? := by
        rw [List.getElem?_take, if_pos (by omega)]; simp
      rw [← this, h6, rows_get ts G _ i j hi hj, hv]
    exact ⟨key 0 _ (by omega) rfl, key 4 _ (by omega) rfl⟩

/-- One cell of a row of one's own is written. -/
theorem own_set {w : World} {base : Nat} {e : TypeId} {s n g c : Nat} {xs : List Value} (h : w.ownsRow base e s (.slice (some ⟨g, 0, none⟩) n c) n xs) (i : Nat) (v : Value) : (w.setCell ⟨g, i, none⟩ v).ownsRow base e s (.slice (some ⟨g, 0, none⟩) n c) n (xs.set i v) := by
  refine ⟨by rw [List.length_set]; exact h.1, ?_⟩
  rcases h.2 with ⟨h1, _⟩ | ⟨g', cap, cur, h0, h1, h2, h3, h4, h5, h6⟩
  · cases h1
  · cases h0
    refine .inr ⟨g, c, cur.setIfInBounds i v, rfl, h1, heap_setCell_same w g i _ _ _ h2, h3, h4, by simpa using h5, ?_⟩
    rw [Array.toList_setIfInBounds, List.take_set, h6]

/-- The first i are turned round. -/
def flipN (xs : List Bool) (i : Nat) : List Bool := (xs.take i).map (!·) ++ xs.drop i
theorem flipN_len (xs : List Bool) (i : Nat) : (flipN xs i).length = xs.length := by simp [flipN]; omega
theorem flipN_at (xs : List Bool) (i : Nat) (h : i < xs.length) : (flipN xs i)[i]? = some (xs.getD i false) := by
  unfold flipN
  rw [List.getElem?_append_right (by simp; omega)]
  simp [List.getD, h, Nat.min_eq_left (Nat.le_of_lt h)]
theorem flipN_next (xs : List Bool) (i : Nat) (h : i < xs.length) : (flipN xs i).set i (!(xs.getD i false)) = flipN xs (i + 1) := by
  unfold flipN
  rw [List.set_append_right _ _ (by simp; omega), take_snoc xs i false h, List.map_append, List.append_assoc]
  congr 1
  rw [List.drop_eq_getElem_cons h]
  simp only [List.length_map, List.length_take, Nat.min_eq_left (Nat.le_of_lt h), Nat.sub_self, List.set_cons_zero, List.map_cons, List.map_nil, List.cons_append, List.nil_append]

theorem zero57 : (Tryd.prog.info? 57).map (fun i => (i.zero, i.size)) = some (some (.agg #[.slice none 0 0, .slice none 0 0, .slice none 0 0, .slice none 0 0]), 4) := by kernel_rfl

theorem book0 {w : World} {kb : Nat} {v0 v1 v2 v3 : Value} (h : w.heap[kb]? = some (.cells #[v0, v1, v2, v3] 57 (0, 0))) : w.cell? ⟨kb, 0, none⟩ = some v0 := by
  have := cell_of_row w kb 0 _ _ _ h
  simpa using this
theorem book_ext {wr W wz : World} {ia : Option Addr} {n ci kb base : Nat} {xs : List Value} {cs : Array Value} (hb : wr.heap[kb]? = some (.cells cs 57 (0, 0))) (hE : Ext [] wr W) (hO : W.ownsRow base 45 1 (.slice ia n ci) n xs) (hX : Ext (Value.ownBlock (.slice ia n ci)).toList W wz) : wz.heap[kb]? = some (.cells cs 57 (0, 0)) :=
  hX.keep (hE.keep hb (by simp)) (by simpa using own_ne hO (hE.keep hb (by simp)) (by decide))
theorem ext_grown {w w' : World} {v : Value} (hg : w.grownBy w' v.ownBlock) : Ext v.ownBlock.toList w w' := Ext.grown hg (by intro q hq; simp [hq])

/-- The value of the fields of type j. -/
def fl (us : List Ty) (G : Nat → Option Addr × Nat) (j : Nat) : Value := .slice (G j).1 (tyAt us j).fields.length (G j).2
def intsL (us : List Ty) (GX GY : Nat → Option Addr × Nat) : Nat → List Value
  | 0 => []
  | i + 1 => intsL us GX GY i ++ [fl us GX i, fl us GY i]

/-- How far the book is. -/
structure Dd (wf w7 : World) (hb kb : Nat) (xa : Option Addr) (xc m : Nat) (us : List Ty) (GX GY : Nat → Option Addr × Nat) (oS mS : Value) (i : Nat) (wr : World) (ia : Option Addr) (ci : Nat) (xs : List Value) : Prop where
  book : wr.heap[kb]? = some (.cells #[.slice ia (2 * i) ci, .slice none 0 0, .slice (some ⟨hb, 0, none⟩) 2 2, .slice none 0 0] 57 (0, 0))
  ints : wr.ownsRow wf.heap.size 45 1 (.slice ia (2 * i) ci) (2 * i) (intsL us GX GY i)
  bts : wr.heap[hb]? = some (.cells #[oS, mS] 36 (0, 0))
  xrow : wr.ownsRow w7.heap.size 48 5 (.slice xa m xc) m xs
  xf : ∀ j, j < m → xs[j * 5 + 4]? = some (fl us GX j)
  ext : Ext (Value.ownBlock (.slice xa m xc)).toList wf wr

theorem dec_okK {L : List Int} {ts : List Ty} {x : Nat} {k : Int} (h : dec L = (ts, x, k)) (h0 : ts ≠ []) : Sound ts := by
  by_cases hl : 65536 < L.length
  · rw [dec_large hl] at h; simp only [Prod.mk.injEq] at h; exact absurd h.1.symm h0
  cases hr : rdTab L with
  | bad y => rw [dec_bad hl hr] at h; simp only [Prod.mk.injEq] at h; exact absurd h.1.symm h0
  | good us y =>
    by_cases hy : y = L.length
    · by_cases hs : Sound us
      · rw [dec_yes hl hr hy hs] at h; simp only [Prod.mk.injEq] at h; rw [← h.1]; exact hs
      · rw [dec_form hl hr hy hs] at h; simp only [Prod.mk.injEq] at h; exact absurd h.1.symm h0
    · rw [dec_short hl hr hy] at h; simp only [Prod.mk.injEq] at h; exact absurd h.1.symm h0

set_option maxRecDepth 100000 in
theorem open_cellsK {H : Type} {enc : TypeId × Value → H} {W : World} {fuel : Nat} {cs : List Value} {x : DataW H × List MemPlace} (hlen : cs.length = 5) (h : DataW.trod enc Tryd.prog W 0 (fun _ => true) true fuel 48 cs = some x)
    (hsz : ∀ y ∈ x.1.weights Tryd.prog 48, y ≤ 140737488351232) : ∃ t fa fc, cs = [.int .i64 t.kind, .int .i64 t.elem, .int .i64 t.key, .int .i64 t.len, .slice fa t.fields.length fc] ∧ FOk W t fa ∧ t.fields.length ≤ 17592186043904 := by
  obtain ⟨v0, v1, v2, v3, v4, rfl⟩ : ∃ v0 v1 v2 v3 v4, cs = [v0, v1, v2, v3, v4] := by
    match cs, hlen with
    | [v0, v1, v2, v3, v4], _ => exact ⟨v0, v1, v2, v3, v4, rfl⟩
  obtain ⟨xs, n, rfl, rfl, _, hxl, hf⟩ := DataW.trod_struct Tryd.underlying48 h
  have f0 : DataW.trod enc Tryd.prog W 0 (fun _ => true) true n 3 (([v0, v1, v2, v3, v4].drop 0).take (Tryd.prog.cellsOf 3)) = xs[0]? := hf 0 _ rfl
  rw [cells3] at f0
  have f1 : DataW.trod enc Tryd.prog W 0 (fun _ => true) true n 3 (([v0, v1, v2, v3, v4].drop 1).take (Tryd.prog.cellsOf 3)) = xs[1]? := hf 1 _ rfl
  rw [cells3] at f1
  have f2 : DataW.trod enc Tryd.prog W 0 (fun _ => true) true n 3 (([v0, v1, v2, v3, v4].drop 2).take (Tryd.prog.cellsOf 3)) = xs[2]? := hf 2 _ rfl
  rw [cells3] at f2
  have f3 : DataW.trod enc Tryd.prog W 0 (fun _ => true) true n 3 (([v0, v1, v2, v3, v4].drop 3).take (Tryd.prog.cellsOf 3)) = xs[3]? := hf 3 _ rfl
  rw [cells3] at f3
  have f4 : DataW.trod enc Tryd.prog W 0 (fun _ => true) true n 45 (([v0, v1, v2, v3, v4].drop 4).take (Tryd.prog.cellsOf 45)) = xs[4]? := hf 4 _ rfl
  rw [cells45] at f4
  have hxl5 : xs.length = 5 := hxl
  obtain ⟨x0, x1, x2, x3, x4, rfl⟩ : ∃ x0 x1 x2 x3 x4, xs = [x0, x1, x2, x3, x4] := by
    match xs, hxl5 with
    | [x0, x1, x2, x3, x4], _ => exact ⟨x0, x1, x2, x3, x4, rfl⟩
  obtain ⟨K, e0, rfl, w0⟩ := DataW.trod_int Tryd.underlying3 f0
  obtain ⟨A, e1, rfl, w1⟩ := DataW.trod_int Tryd.underlying3 f1
  obtain ⟨N, e2, rfl, w2⟩ := DataW.trod_int Tryd.underlying3 f2
  obtain ⟨F, e3, rfl, w3⟩ := DataW.trod_int Tryd.underlying3 f3
  obtain rfl : v0 = .int .i64 K := by simpa using e0
  obtain rfl : v1 = .int .i64 A := by simpa using e1
  obtain rfl : v2 = .int .i64 N := by simpa using e2
  obtain rfl : v3 = .int .i64 F := by simpa using e3
  rcases open_ints Tryd.underlying45 Tryd.underlying3 cells3 f4 with ⟨hcs, _⟩ | ⟨q, l, c, zs, hcs, _, hl, hm, hz, hx, hcl, hwz⟩
  · obtain rfl : v4 = .slice none 0 0 := by simpa using hcs
    exact ⟨⟨K, A, N, F, []⟩, none, 0, rfl, ⟨.inl rfl, by simp⟩, by simp⟩
  · obtain rfl : v4 = .slice (some q) l c := by simpa using hcs
    simp only [if_true] at hz
    have hlen2 : (zs.take l).length = l := by simp; omega
    subst hx
    have := hsz (((lits (H := H) .i64 (zs.take l)).length + (lits (H := H) .i64 (zs.drop l)).length) * Tryd.prog.bytesOf 3) (by
      simp only [DataW.weights, Tryd.underlying48]
      refine DataW.weights_mem_each (ts := [3, 3, 3, 3, 45]) (j := 4) (t := 45) rfl rfl _ ?_
      simp only [DataW.weights, Tryd.underlying45]
      exact List.mem_cons_self)
    rw [bytes3] at this
    simp only [lits, List.length_map, List.length_take, List.length_drop] at this
    refine ⟨⟨K, A, N, F, zs.take l⟩, some q, c, by simp only [hlen2], ⟨?_, by simp only [hlen2]; omega⟩, by simp only [hlen2]; omega⟩
    by_cases h0 : l = 0
    · left; simp [h0]
    · right
      obtain ⟨b, o, rfl, hc2⟩ := ints_at hcl (by omega)
      refine ⟨b, o, rfl, fun j hj => ?_⟩
      simp only [List.length_map, hlen2] at hj
      have hj2 : j < zs.length := by omega
      rw [hc2 j hj2]
      simp [List.getD, hj, hj2]

theorem open_tyK {H : Type} {enc : TypeId × Value → H} {W : World} {fuel : Nat} {ad : Addr} {cs : List Value} {x : DataW H × List MemPlace} (hc : W.cells? 0 ad 5 = some cs) (h : DataW.trod enc Tryd.prog W 0 (fun _ => true) true fuel 48 cs = some x)
    (hsz : ∀ y ∈ x.1.weights Tryd.prog 48, y ≤ 140737488351232) : ∃ b o, ad = ⟨b, o, none⟩ ∧ ∃ t fa fc, TyAt W b o t fa fc ∧ t.fields.length ≤ 17592186043904 := by
  obtain ⟨_, hlen, hcell⟩ := World.cells?_some hc
  obtain ⟨t, fa, fc, rfl, hF, hF2⟩ := open_cellsK hlen h hsz
  have h0 := hcell 0 (by omega)
  have hsp := World.cell?_spot h0
  obtain ⟨b, o, sp⟩ := ad
  have hsp2 : sp = none := by simpa [Addr.add] using hsp
  subst hsp2
  refine ⟨b, o, rfl, t, fa, fc, ⟨?_, ?_, ?_, ?_, ?_, hF⟩, hF2⟩
  · simpa [Addr.add_lit] using h0
  · simpa [Addr.add_lit] using hcell 1 (by omega)
  · simpa [Addr.add_lit] using hcell 2 (by omega)
  · simpa [Addr.add_lit] using hcell 3 (by omega)
  · simpa [Addr.add_lit] using hcell 4 (by omega)

theorem open_tableK {H : Type} {enc : TypeId × Value → H} {W : World} {fuel : Nat} {a : Option Addr} {n c : Nat} {d : DataW H} {ps : List MemPlace} (h : DataW.trod enc Tryd.prog W 0 (fun _ => true) true fuel 22 [.slice a n c] = some (d, ps))
    (hsz : ∀ y ∈ d.weights Tryd.prog 22, y ≤ 140737488351232) : ∃ ts : List Ty, Tab W a ts ∧ ts.length = n ∧ ∀ i, i < n → (tyAt ts i).fields.length ≤ 17592186043904 := by
  rcases DataW.trod_slice Tryd.underlying22 h with ⟨hcs, _⟩ | ⟨ad, len, cap, elems, rest, fu, rfl, hcs, hx, _, hlc, _, hel, hE, _, _⟩
  · simp at hcs
    obtain ⟨_, rfl, rfl⟩ := hcs
    exact ⟨[], ⟨.inl rfl, by simp⟩, rfl, fun i hi => by omega⟩
  · simp only [List.cons.injEq, Value.slice.injEq, and_true] at hcs
    obtain ⟨rfl, rfl, rfl⟩ := hcs
    simp only [Prod.mk.injEq] at hx
    obtain ⟨rfl, _⟩ := hx
    have hw1 := hsz (((elems.map (·.1)).length + (rest.map (·.1)).length) * Tryd.prog.bytesOf 48) (by
      simp only [DataW.weights, Tryd.underlying22]; exact List.mem_cons_self)
    rw [bytes48] at hw1
    simp only [List.length_map] at hw1
    have hall : ∀ i, i < n → ∃ b o, ad.add (i * 5) = ⟨b, o, none⟩ ∧ ∃ t fa fc, TyAt W b o t fa fc ∧ t.fields.length ≤ 17592186043904 := by
      intro i hi
      have he := hE i hi
      rw [cells48] at he
      have hlt : i < elems.length := by omega
      rw [List.getElem?_eq_getElem hlt] at he
      obtain ⟨cs, hc, ht⟩ := Option.bind_eq_some_iff.1 he
      refine open_tyK hc ht (fun y hy => hsz y ?_)
      simp only [DataW.weights, Tryd.underlying22]
      refine List.mem_cons_of_mem _ (List.mem_append.2 (.inl ?_))
      exact weightsAll_mem (List.mem_map.2 ⟨elems[i], List.getElem_mem hlt, rfl⟩) y hy
    by_cases h0 : n = 0
    · exact ⟨[], ⟨.inl rfl, by simp⟩, by simp [h0], fun i hi => by omega⟩
    · obtain ⟨b, o, hb, _⟩ := hall 0 (by omega)
      obtain ⟨b', o', sp⟩ := ad
      have hsp : sp = none := by
        have := congrArg Addr.spot hb
        simpa [Addr.add] using this
      subst hsp
      obtain ⟨ts, hl, hp⟩ := pick_list zeroTy (fun i t => (∃ fa fc, TyAt W b' (o' + i * 5) t fa fc) ∧ t.fields.length ≤ 17592186043904) n (fun i hi => by
        obtain ⟨b2, o2, hb2, t, fa, fc, ht, hF2⟩ := hall i hi
        rw [Addr.add_lit] at hb2
        simp only [Addr.mk.injEq, and_true] at hb2
        obtain ⟨rfl, rfl⟩ := hb2
        exact ⟨t, ⟨fa, fc, ht⟩, hF2⟩)
      refine ⟨ts, ⟨.inr ⟨b', o', rfl, fun i hi => ?_⟩, by omega⟩, hl, fun i hi => ?_⟩
      · have := (hp i (by omega)).1
        simpa [tyAt] using this
      · have := (hp i hi).2
        simpa [tyAt] using this


/-! ### the book -/

theorem intsL_len (us : List Ty) (GX GY : Nat → Option Addr × Nat) : ∀ m, (intsL us GX GY m).length = 2 * m
  | 0 => rfl
  | m + 1 => by rw [intsL, List.length_append, intsL_len us GX GY m]; simp; omega
theorem intsL_get (us : List Ty) (GX GY : Nat → Option Addr × Nat) : ∀ m i, i < 2 * m → (intsL us GX GY m)[i]? = some (if i % 2 = 0 then fl us GX (i / 2) else fl us GY (i / 2))
  | 0, i, h => by omega
  | m + 1, i, h => by
    rw [intsL]
    by_cases hi : i < 2 * m
    · rw [List.getElem?_append_left (by rw [intsL_len]; exact hi)]
      exact intsL_get us GX GY m i hi
    · rw [List.getElem?_append_right (by rw [intsL_len]; omega), intsL_len]
      have : i = 2 * m ∨ i = 2 * m + 1 := by omega
      rcases this with rfl | rfl
      · rw [Nat.sub_self, show 2 * m % 2 = 0 by omega, show 2 * m / 2 = m by omega]; rfl
      · rw [show 2 * m + 1 - 2 * m = 1 by omega, show (2 * m + 1) % 2 = 1 by omega, show (2 * m + 1) / 2 = m by omega]; rfl

/-- A slice value as the look at memory has it. -/
def toIt : Value → Option (Nat × Nat × Nat)
  | .slice (some ad) n c => some (ad.block, n, c)
  | _ => none
theorem iv_toIt {w : World} {base : Nat} {e : TypeId} {v : Value} {n : Nat} {xs : List Value} (h : w.ownsRow base e 1 v n xs) : iv (toIt v) = v := by
  rcases h.2 with ⟨rfl, rfl⟩ | ⟨g, cap, cur, rfl, _⟩ <;> rfl
theorem own1_of {w : World} {base : Nat} {e : TypeId} {v : Value} {n : Nat} {xs : List Value} (h : w.ownsRow base e 1 v n xs) {b l c : Nat} (hv : toIt v = some (b, l, c)) : (∃ ys, ys.length = l ∧ Own1 w e b c ys) ∧ v.ownBlock = some b ∧ l = n := by
  have hlen := h.1
  rcases h.2 with ⟨rfl, rfl⟩ | ⟨g, cap, cur, rfl, h1, h2, h3, h4, h5, h6⟩
  · simp [toIt] at hv
  · simp only [toIt, Option.some.injEq, Prod.mk.injEq] at hv
    obtain ⟨rfl, rfl, rfl⟩ := hv
    refine ⟨⟨xs, by omega, ⟨cur, h2, by omega, by omega, ?_⟩, h4⟩, rfl, rfl⟩
    rw [← h6]
    simp only [Nat.mul_one] at h6 hlen ⊢
    rw [h6, hlen, h6]
theorem toIt_block {v : Value} {b l c : Nat} (h : toIt v = some (b, l, c)) : v.ownBlock = some b := by
  unfold toIt at h
  split at h
  · simp only [Option.some.injEq, Prod.mk.injEq] at h
    simp [Value.ownBlock, h.1]
  · cases h

/-- The lists of fields of two tables, by turns. -/
def itI (us : List Ty) (GX GY : Nat → Option Addr × Nat) (i : Nat) : Option (Nat × Nat × Nat) := toIt (if i % 2 = 0 then fl us GX (i / 2) else fl us GY (i / 2))
/-- Two lists of bytes. -/
def itB (oS mS : Value) (i : Nat) : Option (Nat × Nat × Nat) := toIt (if i = 0 then oS else mS)

/-- What the book's parts must be. -/
structure Bz (w : World) (us : List Ty) (GX GY : Nat → Option Addr × Nat) (m : Nat) (s : Nat) : Prop where
  gx : ∀ j, j < m → ∃ base, w.ownsRow base 3 1 (fl us GX j) (tyAt us j).fields.length ((tyAt us j).fields.map (Value.int .i64))
  gy : ∀ j, j < m → ∃ base, w.ownsRow base 3 1 (fl us GY j) (tyAt us j).fields.length ((tyAt us j).fields.map (Value.int .i64))
  ax : Apt us GX m
  ay : Apt us GY m
  bx : ∀ j, j < m → ∀ g, (fl us GX j).ownBlock = some g → g < s
  by_ : ∀ j, j < m → ∀ g, (fl us GY j).ownBlock = some g → s ≤ g
  sm : ∀ j, j < m → (tyAt us j).fields.length ≤ 16

theorem bz_at {w : World} {us : List Ty} {GX GY : Nat → Option Addr × Nat} {m s : Nat} (h : Bz w us GX GY m s) {i : Nat} (hi : i < 2 * m) :
    ∃ base, w.ownsRow base 3 1 (if i % 2 = 0 then fl us GX (i / 2) else fl us GY (i / 2)) (tyAt us (i / 2 : Nat)).fields.length ((tyAt us (i / 2 : Nat)).fields.map (Value.int .i64)) := by
  split
  · exact h.gx _ (by omega)
  · exact h.gy _ (by omega)

theorem bk_ints {w : World} {us : List Ty} {GX GY : Nat → Option Addr × Nat} {m s base hi ci : Nat} (h : Bz w us GX GY m s) (hO : w.ownsRow base 45 1 (.slice (some ⟨hi, 0, none⟩) (2 * m) ci) (2 * m) (intsL us GX GY m)) : Bk 3 w hi (2 * m) (itI us GX GY) := by
  refine ⟨fun i hlt => ?_, fun i b l c hlt hit => ?_, fun i j b l c b' l' c' hlt hlt' hit hit' hne => ?_⟩
  · obtain ⟨_, ho⟩ := bz_at h hlt
    rcases own_vs hO with h0 | ⟨b, o, hb, hc⟩
    · have := intsL_len us GX GY m
      rw [h0] at this
      simp at this
      omega
    · simp only [Option.some.injEq, Addr.mk.injEq, and_true] at hb
      obtain ⟨rfl, rfl⟩ := hb
      have := hc i (by rw [intsL_len]; exact hlt)
      rw [Nat.zero_add] at this
      rw [this, intsL_get us GX GY m i hlt, itI, iv_toIt ho]
  · obtain ⟨_, ho⟩ := bz_at h hlt
    obtain ⟨h1, h2, rfl⟩ := own1_of ho hit
    refine ⟨h1, fun e => ?_, by have := h.sm (i / 2) (by omega); omega⟩
    subst e
    obtain ⟨cur, hq⟩ := own_at hO (q := b) rfl
    exact own_ne ho hq (by decide) h2
  · have hb := toIt_block hit
    have hb' := toIt_block hit'
    intro e
    subst e
    by_cases e1 : i % 2 = 0 <;> by_cases e2 : j % 2 = 0 <;> simp only [e1, e2, if_true, if_false] at hb hb'
    · exact h.ax (i / 2) (j / 2) (by omega) (by omega) (by omega) b hb hb'
    · have := h.bx (i / 2) (by omega) b hb
      have := h.by_ (j / 2) (by omega) b hb'
      omega
    · have := h.by_ (i / 2) (by omega) b hb
      have := h.bx (j / 2) (by omega) b hb'
      omega
    · exact h.ay (i / 2) (j / 2) (by omega) (by omega) (by omega) b hb hb'

theorem bk_nil (w : World) (hi : Nat) (it : Nat → Option (Nat × Nat × Nat)) : Bk 3 w hi 0 it :=
  ⟨fun i h => by omega, fun i b l c h => by omega, fun i j b l c b' l' c' h => by omega⟩

theorem bk_bytes {w : World} {hb eL : Nat} {b1 b2 : Nat} {oS mS : Value} {xs ys : List Value} (hc : w.heap[hb]? = some (.cells #[oS, mS] 36 (0, 0))) (ho : w.ownsRow b1 5 1 oS eL xs) (hm : w.ownsRow b2 5 1 mS eL ys) (hl : eL ≤ 40000) (hd : ∀ g, oS.ownBlock = some g → mS.ownBlock ≠ some g) : Bk 5 w hb 2 (itB oS mS) := by
  have at_ : ∀ i, i < 2 → ∃ base zs, w.ownsRow base 5 1 (if i = 0 then oS else mS) eL zs := fun i _ => by
    split
    · exact ⟨_, _, ho⟩
    · exact ⟨_, _, hm⟩
  refine ⟨fun i hlt => ?_, fun i b l c hlt hit => ?_, fun i j b l c b' l' c' hlt hlt' hit hit' hne => ?_⟩
  · obtain ⟨_, _, h⟩ := at_ i hlt
    rw [itB, iv_toIt h, cell_of_row _ _ _ _ _ _ hc]
    have : i = 0 ∨ i = 1 := by omega
    rcases this with rfl | rfl <;> rfl
  · obtain ⟨_, _, h⟩ := at_ i hlt
    obtain ⟨h1, h2, rfl⟩ := own1_of h hit
    refine ⟨h1, fun e => ?_, by omega⟩
    subst e
    exact own_ne h hc (by decide) h2
  · have q1 := toIt_block hit
    have q2 := toIt_block hit'
    intro e
    subst e
    have h1 : i = 0 ∨ i = 1 := by omega
    have h2 : j = 0 ∨ j = 1 := by omega
    rcases h1 with rfl | rfl <;> rcases h2 with rfl | rfl
    · exact hne rfl
    · exact hd b q1 q2
    · exact hd b q2 q1
    · exact hne rfl

theorem dd_next {wf w7 wr W wz : World} {hb kb xb xc m : Nat} {us : List Ty} {GX GY : Nat → Option Addr × Nat} {oS mS : Value} {i : Nat} {ia : Option Addr} {ci ga gcap : Nat} {xs : List Value}
    (hD : Dd wf w7 hb kb (some ⟨xb, 0, none⟩) xc m us GX GY oS mS i wr ia ci xs) (hEW : Ext [] wr W) (hO : W.ownsRow wf.heap.size 45 1 (.slice ia (2 * i) ci) (2 * i) (intsL us GX GY i))
    (hO8 : wz.ownsRow wf.heap.size 45 1 (.slice (some ⟨ga, 0, none⟩) (2 * i + 2) gcap) (2 * i + 2) (intsL us GX GY i ++ [fl us GX i, fl us GY i])) (hX8 : Ext (Value.ownBlock (.slice ia (2 * i) ci)).toList W wz) (hk : wf.heap.size ≤ kb) (hbk : hb ≠ kb) (hxk : xb ≠ kb) :
    Dd wf w7 hb kb (some ⟨xb, 0, none⟩) xc m us GX GY oS mS (i + 1) ((wz.setCell ⟨kb, 0, none⟩ (.slice (some ⟨ga, 0, none⟩) (2 * i + 2) gcap)).setCell ⟨xb, i * 5, none⟩ (.int .i64 (-1))) (some ⟨ga, 0, none⟩) gcap (xs.set (i * 5) (.int .i64 (-1))) := by
  have hbz := book_ext hD.book hEW hO hX8
  have hx1 := own_keep0 hD.xrow hEW
  have hx2 := own_keep hx1 hX8 (own_apart hx1 hO (by decide))
  have hs1 := Ext.setCell [kb] wz ⟨kb, 0, none⟩ (.slice (some ⟨ga, 0, none⟩) (2 * i + 2) gcap) (by simp)
  have hs2 := Ext.setCell [xb] (wz.setCell ⟨kb, 0, none⟩ (.slice (some ⟨ga, 0, none⟩) (2 * i + 2) gcap)) ⟨xb, i * 5, none⟩ (.int .i64 (-1)) (by simp)
  have hx3 := own_keep hx2 hs1 (by simpa using own_ne hx2 hbz (by decide))
  have hi3 := own_keep hO8 hs1 (by simpa using own_ne hO8 hbz (by decide))
  have hb1 := hEW.keep hD.bts (by simp)
  have hb2 := hX8.keep hb1 (by simpa using own_ne hO hb1 (by decide))
  obtain ⟨xcur, hxcur⟩ := own_at hx3 (q := xb) rfl
  refine ⟨?_, ?_, ?_, own_set hx3 _ _, ?_, ?_⟩
  · have h1 := heap_setCell_same wz kb 0 _ _ (.slice (some ⟨ga, 0, none⟩) (2 * i + 2) gcap) hbz
    have h2 := hs2.keep h1 (by simpa using fun e => hxk e.symm)
    rw [h2]
    simp; omega
  · rw [show 2 * (i + 1) = 2 * i + 2 by omega]
    exact own_keep hi3 hs2 (by simpa using own_ne hi3 hxcur (by decide))
  · refine hs2.keep (hs1.keep hb2 (by simpa using hbk)) ?_
    have := own_ne hx3 (hs1.keep hb2 (by simpa using hbk)) (by decide)
    simp only [Value.ownBlock, ne_eq, Option.some.injEq] at this
    simpa using fun e => this e.symm
  · intro j hj
    rw [List.getElem?_set_ne (by omega)]
    exact hD.xf j hj
  · have e1 : Ext [xb] wf wr := hD.ext
    refine Ext.drop (S := [xb, kb] ++ (Value.ownBlock (.slice ia (2 * i) ci)).toList) ?_ ?_
    · exact ((((e1.mono (by simp)).trans (hEW.mono (by simp))).trans (hX8.mono (fun x hx => by simp only [List.mem_append]; exact .inr hx))).trans (hs1.mono (by simp))).trans (hs2.mono (by simp))
    · intro x hx
      simp only [List.cons_append, List.nil_append, List.mem_cons, Option.mem_toList] at hx
      rcases hx with rfl | rfl | hx
      · left; simp [Value.ownBlock]
      · right; exact hk
      · right; exact (own_lt hO x hx).1

end Go.Proofs.YtfjbhpjgidgjaaaDoor
