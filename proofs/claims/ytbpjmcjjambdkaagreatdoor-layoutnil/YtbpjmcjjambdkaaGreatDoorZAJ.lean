/-
  Ins, Rep: joined by program; no statement is proved here.
-/
import Derived.Test.YtbpjmcjjambdkaaGreatDoorZAI
import Derived.Lib.Overlaps
import Derived.Lib.AppendZerosOnto
import Derived.Deep.RegionLaw
/-
  slices.Insert at lists of runs, one run put in; no statement is proved here.
-/
namespace Go.Proofs.YtbpjmcjjambdkaaGreatDoor
open Go.RowKit

/-! ### copy and append at runs -/

/-- copy between slices of elements of k cells, the target a row that is known whole. -/
theorem run_copy_k {P : Program} (w : World) (dT sT ty elem : TypeId) (k g o dLen dCap : Nat) (a : Addr) (sLen sCap m : Nat) (cur : List Value) (t : TypeId) (cs : List Value)
    (hu : P.underlying dT = some (.slice elem)) (hs : (P.info? elem).map (·.size) = some k) (hg : w.heap[g]? = some (.cells cur.toArray t (0, 0))) (hm : Nat.min sLen dLen = m) (hn : cs.length = m * k)
    (hsrc : ∀ j v, cs[j]? = some v → w.cell? (a.add j) = some v) (hfit : o + cs.length ≤ cur.length) (h1 : ∀ v ∈ cs, v.oneCell' = true) :
    (Builtin.copy_ #[dT, sT] ty #[.slice (some ⟨g, o, none⟩) dLen dCap, .slice (some a) sLen sCap]).run P w = .ok (goInt m) (w.setRow g (splice cur o cs).toArray) := by
  have hf := run_firstCells_some (P := P) w k m a sLen sCap cs hn hsrc
  have hst := run_storeCells_at P g o t cs 0 cur.toArray w hg (by simpa using hfit) h1
  cases hq : P.info? elem with
  | none => simp [hq] at hs
  | some i =>
    have hi : i.size = k := by simpa [hq] using hs
    simp only [Nat.add_zero] at hst
    simp [Builtin.copy_, run_underlying hu, Builtin.lenOf, sizeOf, typeInfo, hq, hi, hm, hf, hst, splice]

theorem wpList_copy_run {P : Program} {w w' : World} {ops : Array Oper} {rest : List Oper} {o : Oper} {a : Act} {Q : Exit → Act → World → Prop} (hgd : o.guard = none) (d s : Operand) (t t' : TypeId)
    (ho : o.op = .call { callee := .builtin .copy, args := #[d, s], argTypes := #[t, t'] }) (vd vs v' : Value) (hd : a.eval d = vd) (hs : a.eval s = vs)
    (hr : (Builtin.copy_ #[t, t'] o.type #[vd, vs]).run P w = .ok v' w') (h : wpList P ops Q rest (a.put o.dst v') w') : wpList P ops Q (o :: rest) a w := by
  refine wpList_plain hgd fun K hK => ?_
  unfold Oper.wp execOp
  simp only [ho, resolve, invoke, builtin, Sem.run_bind, Sem.run_pure, Result.andThen_ok, List.map_toArray, List.map_cons, List.map_nil, hd, hs, hr]
  exact hK _ _ h

theorem wpList_append_run2 {P : Program} {w w' : World} {ops : Array Oper} {rest : List Oper} {o : Oper} {a : Act} {Q : Exit → Act → World → Prop} (hgd : o.guard = none) (s x : Operand) (t t' : TypeId)
    (ho : o.op = .call { callee := .builtin .append, args := #[s, x], argTypes := #[t, t'] }) (vs vx v' : Value) (hs : a.eval s = vs) (hx : a.eval x = vx)
    (hr : (Builtin.append_ #[t, t'] o.type #[vs, vx]).run P w = .ok v' w') (h : wpList P ops Q rest (a.put o.dst v') w') : wpList P ops Q (o :: rest) a w := by
  refine wpList_plain hgd fun K hK => ?_
  unfold Oper.wp execOp
  simp only [ho, resolve, invoke, builtin, Sem.run_bind, Sem.run_pure, Result.andThen_ok, List.map_toArray, List.map_cons, List.map_nil, hs, hx, hr]
  exact hK _ _ h

theorem step_copy_run {P : Program} {ops : Array Oper} {o : Oper} {a : Act} {w w' : World} {K : Act → World → Prop} {Q : Exit → Act → World → Prop} {E : Prop} (hgd : o.guard = none) (d s : Operand) (t t' : TypeId)
    (ho : o.op = .call { callee := .builtin .copy, args := #[d, s], argTypes := #[t, t'] }) (vd vs v' : Value) (hd : a.eval d = vd) (hs : a.eval s = vs)
    (hr : (Builtin.copy_ #[t, t'] o.type #[vd, vs]).run P w = .ok v' w') (h : K (a.put o.dst v') w') :
    if Region.wanted o (yielded ops a.tmps) = true then Oper.wp P o a w K Q else E := by
  rw [if_pos (by simp [Region.wanted, hgd])]
  unfold Oper.wp execOp
  simp only [ho, resolve, invoke, builtin, Sem.run_bind, Sem.run_pure, Result.andThen_ok, List.map_toArray, List.map_cons, List.map_nil, hd, hs, hr]
  exact h

/-- The block of a list is what it was, or it is new. -/
def OldNew (w : World) (v v' : Value) : Prop := v'.ownBlock = v.ownBlock ∨ ∀ g, v'.ownBlock = some g → w.heap.size ≤ g

theorem size42' : (Tryz.prog.info? 129).map (·.size) = some 3 := by kernel_rfl

/-- What a list has become. -/
def LPost (w : World) (v : Value) (L' : List Rn) (e : Ending) (w' : World) : Prop :=
  ∃ v', e = .returned v' ∧ Lst w' v' L' ∧ OldNew w v v' ∧ Ext v.ownBlock.toList w w'

/-- A run of the call's own. -/
def One (w : World) (vb : Nat) (x : Rn) : Prop := w.heap[vb]? = some (.cells #[.int .i64 x.s, .int .i64 x.n, .bool x.u] 129 (0, 0))
theorem One.cells {w : World} {vb : Nat} {x : Rn} (h : One w vb x) : ∀ j u, x.cells[j]? = some u → w.cell? ((⟨vb, 0, none⟩ : Addr).add j) = some u := fun j u hu => by
  rw [Addr.add_lit, cell_of_row _ _ _ _ _ _ h, Nat.zero_add, ← hu]; simp [Rn.cells]
theorem One.keep {S : List Nat} {w w' : World} {vb : Nat} {x : Rn} (h : One w vb x) (e : Ext S w w') (hs : vb ∉ S) : One w' vb x := e.keep h hs
theorem cells_one (x : Rn) : ∀ u ∈ x.cells, u.oneCell' = true := by simp [Rn.cells, Value.oneCell']
theorem cells_len (x : Rn) : x.cells.length = 3 := rfl

theorem zero_cells_len (n : Nat) : (Builtin.zeroCells (Value.agg #[.int .i64 0, .int .i64 0, .bool false]).cells n).size = n * 3 := by
  rw [size_zeroCells]; rfl

/-- append of one run. -/
theorem app_run (w : World) (v : Value) (L : List Rn) (hL : Lst w v L) (hlen : L.length ≤ 100000) (vb : Nat) (x : Rn) (hx : One w vb x) (ty : TypeId) (c1 : Nat) :
    ∃ v' w', (Builtin.append_ #[68, 68] ty #[v, .slice (some ⟨vb, 0, none⟩) 1 c1]).run Tryz.prog w = .ok v' w' ∧ Lst w' v' (L ++ [x]) ∧ OldNew w v v' ∧ Ext v.ownBlock.toList w w' := by
  obtain ⟨i, hi0, hz0, hz1, hz2⟩ := info_parts info129
  have fin : ∀ old, Lst (w.drew.alloc (.cells ((rcells L).toArray ++ x.cells.toArray ++ Builtin.zeroCells (Value.agg #[.int .i64 0, .int .i64 0, .bool false]).cells (grownCap w (L.length + 1) old 129 - (L.length + 1))) 129)) (.slice (some ⟨w.heap.size, 0, none⟩) (L.length + 1) (grownCap w (L.length + 1) old 129)) (L ++ [x]) := fun old => by
    have hge := grownCap_ge w (L.length + 1) old 129
    refine ⟨by simp [rcells_len], .inr ⟨w.heap.size, grownCap w (L.length + 1) old 129, _, by simp, Nat.zero_le _, heap_alloc_new w.drew _, by simpa using hge, grownCap_le_maxLen w _ old 129 (by unfold maxLen; omega), ?_, ?_⟩⟩
    · simp only [Array.size_append, List.size_toArray, zero_cells_len, rcells_len, cells_len]
      omega
    · simp only [Array.toList_append, rcells_append, rcells_one]
      rw [List.take_left' (by simp [rcells_len, cells_len]; omega)]
  rcases id hL.2 with ⟨rfl, hn⟩ | ⟨g, cap, cur, rfl, h1, h2, h3, h4, h5, h6⟩
  · obtain rfl : L = [] := List.length_eq_zero_iff.1 hn
    have hr := run_append_nil (P := Tryz.prog) w 68 ty 129 i _ Tryz.underlying68 hi0 hz0 ⟨vb, 0, none⟩ 1 c1 x.cells (by rw [hz1]; rfl) hx.cells (by omega) (by omega) (by rw [hz2]; omega)
    have hf := fin 0
    simp only [rcells_nil, List.length_nil, Nat.zero_add, Array.empty_append, List.nil_append] at hf
    refine ⟨_, _, hr, by simpa using hf, .inr (by simp [Value.ownBlock]), ?_⟩
    exact ((Ext.drew [] w).trans (Ext.alloc [] _ _)).mono (by simp)
  · by_cases hroom : L.length + 1 ≤ cap
    · have hr := run_append_room (P := Tryz.prog) w 68 ty 129 i Tryz.underlying68 hi0 g L.length cap cur h2 ⟨vb, 0, none⟩ 1 c1 x.cells (by rw [hz1]; rfl) hx.cells (cells_one x) hroom (by rw [hz1, h5, cells_len]; omega)
      rw [hz1] at hr
      refine ⟨_, _, hr, ⟨by simp [rcells_len], .inr ⟨g, cap, _, by simp, Nat.zero_le _, setRow_heap w g cur _ 129 _ h2, by simpa using hroom, h4, ?_, ?_⟩⟩, .inl rfl, Ext.setRow _ _ _ _ (by simp [Value.ownBlock])⟩
      · simp [cells_len, h5]; omega
      · rw [h6]
        simp only [rcells_append, rcells_one]
        rw [List.take_left' (by simp [rcells_len, cells_len]; omega)]
    · have hr := run_append_grow (P := Tryz.prog) w 68 ty 129 i _ Tryz.underlying68 hi0 hz0 ⟨g, 0, none⟩ L.length cap (rcells L) (by rw [hz1, rcells_len]) (fun j u hu => World.ownsRow.cells hL (g := g) rfl j u hu) ⟨vb, 0, none⟩ 1 c1 x.cells (by rw [hz1]; rfl) hx.cells (by omega) (by omega) (growslice_fits (by omega) (by rw [hz2]; omega))
      refine ⟨_, _, hr, fin cap, .inr (by simp [Value.ownBlock]), ?_⟩
      exact ((Ext.drew [] w).trans (Ext.alloc [] _ _)).mono (by simp)

/-! ### Insert -/

set_option maxRecDepth 100000 in
set_option maxHeartbeats 4000000 in
theorem insert_end (v : Value) (L : List Rn) (w : World) (hL : Lst w v L) (h0 : 0 < L.length) (hlen : L.length ≤ 100000) (vb : Nat) (x : Rn) (hx : One w vb x) :
    Calls Tryz.prog 214 #[v, .int .i64 L.length, .slice (some ⟨vb, 0, none⟩) 1 1] w (LPost w v (L ++ [x])) := by
  obtain ⟨v', w', hr, hL', hON, hE⟩ := app_run w v L hL hlen vb x hx 68 1
  obtain ⟨g, c, rfl, hnc, hcm, _, _⟩ := hL.at_ h0
  unfold maxLen at hcm
  have HF : Hid (LPost w (.slice (some ⟨g, 0, none⟩) L.length c) (L ++ [x]) (.returned v') w') := ⟨v', rfl, hL', hON, hE⟩
  clear hL hL' hON hE hx
  generalize L.length = n at *
  go_enter Tryz.func214, Tryz.ntmps214
  go_wp2_with (at_builtin; refine wpList_append_run rfl _ _ 68 rfl _ _ _ rfl rfl hr ?_)
  all_goals
    go_ret
    exact HF.out

theorem take_drop_cells (L : List Rn) (i : Nat) : rcells L = rcells (L.take i) ++ rcells (L.drop i) := by rw [← rcells_append, List.take_append_drop]
theorem rcells_take_len (L : List Rn) (i : Nat) (h : i ≤ L.length) : (rcells (L.take i)).length = i * 3 := by rw [rcells_len, List.length_take, Nat.min_eq_left h]
theorem rcells_drop_len (L : List Rn) (i : Nat) : (rcells (L.drop i)).length = (L.length - i) * 3 := by rw [rcells_len, List.length_drop]

theorem splice_left {α : Type} (A B : List α) (o : Nat) (cs : List α) (h : A.length = o) : splice (A ++ B) o cs = A ++ (cs ++ B.drop cs.length) := by
  unfold splice
  rw [List.take_left' h, ← h, ← List.drop_drop, List.drop_left]
theorem splice_len {α : Type} (C : List α) (o : Nat) (cs : List α) (h : o + cs.length ≤ C.length) : (splice C o cs).length = C.length := length_splice C o cs h

theorem sizeOf72 : ∀ w, (Go.sizeOf 129).run Tryz.prog w = .ok 3 w := fun w => by
  obtain ⟨i, hi0, _, hz1, _⟩ := info_parts info129
  simp [sizeOf, typeInfo, hi0, hz1]
theorem shape_row {w : World} {g : Nat} {cs : Array Value} {t : TypeId} (h : w.heap[g]? = some (.cells cs t (0, 0))) : w.shape? g = some (t, cs.size) := by
  simp [World.shape?, h]

theorem over_w (w : World) (vb g la ca lb cb off : Nat) (hne : vb ≠ g) (x : Rn) (hx : One w vb x) (cur : Array Value) (hg : w.heap[g]? = some (.cells cur 129 (0, 0))) (hk : cur.size ≠ 0) :
    (callFunc 215 #[.slice (some ⟨vb, 0, none⟩) la ca, .slice (some ⟨g, off, none⟩) lb cb]).run Tryz.prog w = .ok (.value (.bool false)) w := by
  rw [run_callFunc_extern Tryz.func215 (by kernel_rfl) (by kernel_rfl) (by kernel_rfl) (e := Extern.SlicesOverlaps.overlaps #[68, 68] #[4]) (by kernel_rfl),
    Lib.run_overlaps_apart w 68 4 129 Tryz.underlying68 3 sizeOf72 ⟨vb, 0, none⟩ ⟨g, off, none⟩ la ca lb cb hne 129 129 3 cur.size (shape_row hx) (shape_row hg) hk (frozen_of_row _ _ _ _ _ hx) (frozen_of_row _ _ _ _ _ hx)]
  rfl

set_option maxRecDepth 100000 in
set_option maxHeartbeats 4000000 in
theorem insert_shift (g c i : Nat) (L : List Rn) (w : World) (hL : Lst w (.slice (some ⟨g, 0, none⟩) L.length c) L) (hi : i < L.length) (hroom : L.length + 1 ≤ c) (hlen : L.length ≤ 100000) (vb : Nat) (x : Rn) (hx : One w vb x) (hne : vb ≠ g) :
    Calls Tryz.prog 214 #[.slice (some ⟨g, 0, none⟩) L.length c, .int .i64 i, .slice (some ⟨vb, 0, none⟩) 1 1] w (LPost w (.slice (some ⟨g, 0, none⟩) L.length c) (L.take i ++ [x] ++ L.drop i)) := by
  have hcm0 : c ≤ maxLen := by
    obtain ⟨g', c', hv, _, hcm, _⟩ := hL.at_ (by omega)
    simp only [Value.slice.injEq, true_and] at hv
    obtain ⟨_, rfl⟩ := hv
    exact hcm
  have hcm := hcm0
  unfold maxLen at hcm0
  rcases hL.2 with ⟨h0, _⟩ | ⟨g', c', cur, hv, _, hg, _, _, hcs, hck⟩
  · cases h0
  simp only [Value.slice.injEq, Option.some.injEq, Addr.mk.injEq, and_true, true_and] at hv
  obtain ⟨rfl, rfl⟩ := hv
  have hov : ∀ la ca lb cb off, (callFunc 215 #[.slice (some ⟨vb, 0, none⟩) la ca, .slice (some ⟨g, off, none⟩) lb cb]).run Tryz.prog w = .ok (.value (.bool false)) w := fun la ca lb cb off => over_w w vb g la ca lb cb off hne x hx cur hg (by omega)
  -- the row's cells, in parts
  have hC : cur.toList = rcells (L.take i) ++ (rcells (L.drop i) ++ cur.toList.drop (L.length * 3)) := by
    rw [← List.append_assoc, ← take_drop_cells, ← hck, List.take_append_drop]
  have hPl := rcells_take_len L i (by omega)
  have hQl := rcells_drop_len L i
  obtain ⟨P, hP⟩ : ∃ P, P = rcells (L.take i) := ⟨_, rfl⟩
  obtain ⟨Q, hQ⟩ : ∃ Q, Q = rcells (L.drop i) := ⟨_, rfl⟩
  obtain ⟨R, hR⟩ : ∃ R, R = cur.toList.drop (L.length * 3) := ⟨_, rfl⟩
  have hRl : R.length = (c - L.length) * 3 := by rw [hR, List.length_drop, Array.length_toList, hcs]; omega
  rw [← hP] at hPl
  rw [← hQ] at hQl
  rw [← hP, ← hQ, ← hR] at hC
  have hg0 : w.heap[g]? = some (.cells (P ++ (Q ++ R)).toArray 129 (0, 0)) := by rw [hg, ← hC]
  have hq1 : ∀ u ∈ Q, u.oneCell' = true := by rw [hQ]; exact rcells_one' _
  have hcp1 : ∀ ty o dl dc so sl sc, o = (i + 1) * 3 → dl = L.length - i → so = i * 3 → sl = L.length + 1 - i → (Builtin.copy_ #[68, 68] ty #[.slice (some ⟨g, o, none⟩) dl dc, .slice (some ⟨g, so, none⟩) sl sc]).run Tryz.prog w.drew = .ok (goInt ((L.length - i : Nat) : Nat)) (w.drew.setRow g (splice (P ++ (Q ++ R)) ((i + 1) * 3) Q).toArray) := by
    intro ty o dl dc so sl sc ho hdl hso hsl
    subst ho
    exact run_copy_k w.drew 68 68 ty 129 3 g ((i + 1) * 3) dl dc ⟨g, so, none⟩ sl sc (L.length - i) (P ++ (Q ++ R)) 129 Q Tryz.underlying68 size42' hg0 (by rw [hdl, hsl]; simp only [Nat.min_def]; split <;> omega) hQl (fun j u hu => by
      have hj := (List.getElem?_eq_some_iff.1 hu).1
      rw [Addr.add_lit, cell_of_row (w := w.drew) g _ _ _ _ hg0, hso]
      simp only [List.getElem?_toArray]
      rw [List.getElem?_append_right (by omega), List.getElem?_append_left (by omega), show i * 3 + j - P.length = j by omega, hu]) (by simp only [List.length_append]; omega) hq1
  have hX1 : splice (P ++ (Q ++ R)) ((i + 1) * 3) Q = P ++ ((splice (Q ++ R) 3 Q)) := by
    unfold splice
    rw [List.take_append, List.drop_append, List.take_of_length_le (by omega), List.drop_eq_nil_of_le (by omega), show (i + 1) * 3 - P.length = 3 by omega, show (i + 1) * 3 + Q.length - P.length = 3 + Q.length by omega]
    simp
  have hX1l : (splice (Q ++ R) 3 Q).length = Q.length + R.length := by rw [splice_len]; simp; simp; omega
  have hX1d : (splice (Q ++ R) 3 Q).drop 3 = Q ++ (Q ++ R).drop (3 + Q.length) := by
    unfold splice
    rw [List.drop_left' (by simp; omega)]
  rw [hX1] at hcp1
  obtain ⟨S, hS⟩ : ∃ S, S = splice (Q ++ R) 3 Q := ⟨_, rfl⟩
  rw [← hS] at hcp1 hX1l hX1d
  have hgS : (w.drew.setRow g (P ++ S).toArray).heap[g]? = some (.cells (P ++ S).toArray 129 (0, 0)) := setRow_heap _ _ _ _ _ _ hg0
  have hxS : One (w.drew.setRow g (P ++ S).toArray) vb x := (setRow_other w.drew g vb _ hne).trans hx
  have hcp2 : ∀ ty o dl dc sc, o = i * 3 → dl = L.length + 1 - i → (Builtin.copy_ #[68, 68] ty #[.slice (some ⟨g, o, none⟩) dl dc, .slice (some ⟨vb, 0, none⟩) 1 sc]).run Tryz.prog (w.drew.setRow g (P ++ S).toArray) = .ok (goInt ((1 : Nat) : Nat)) ((w.drew.setRow g (P ++ S).toArray).setRow g (splice (P ++ S) (i * 3) x.cells).toArray) := by
    intro ty o dl dc sc ho hdl
    subst ho
    exact run_copy_k _ 68 68 ty 129 3 g (i * 3) dl dc ⟨vb, 0, none⟩ 1 sc 1 (P ++ S) 129 x.cells Tryz.underlying68 size42' hgS (by rw [hdl]; simp only [Nat.min_def]; split <;> omega) rfl hxS.cells (by simp only [List.length_append, cells_len]; omega) (cells_one x)
  have hX2 : splice (P ++ S) (i * 3) x.cells = P ++ (x.cells ++ (Q ++ (Q ++ R).drop (3 + Q.length))) := by
    rw [splice_left P S _ _ hPl, cells_len, hX1d]
  rw [hX2, setRow_setRow] at hcp2
  have HF : Hid (LPost w (.slice (some ⟨g, 0, none⟩) L.length c) (L.take i ++ [x] ++ L.drop i) (.returned (.slice (some ⟨g, 0, none⟩) (L.length + 1) c)) (w.drew.setRow g (P ++ (x.cells ++ (Q ++ (Q ++ R).drop (3 + Q.length)))).toArray)) := by
    refine ⟨_, rfl, ⟨?_, .inr ⟨g, c, _, ?_, Nat.zero_le _, setRow_heap _ _ _ _ _ _ hg0, ?_, hcm, ?_, ?_⟩⟩, .inl rfl, ?_⟩
    · rw [rcells_len]
    · congr 1; simp; omega
    · simp; omega
    · simp [cells_len]; omega
    · rw [show (L.take i ++ [x] ++ L.drop i).length = L.length + 1 by simp; omega]
      simp only [rcells_append, rcells_one, ← hP, ← hQ]
      rw [show P ++ (x.cells ++ (Q ++ (Q ++ R).drop (3 + Q.length))) = (P ++ x.cells ++ Q) ++ (Q ++ R).drop (3 + Q.length) by simp, List.take_left' (by simp [cells_len]; omega)]
    · exact (Ext.drew _ w).trans (Ext.setRow _ _ _ _ (by simp [Value.ownBlock]))
  clear hx hL hg hC hP hQ hR hg0 hX1 hX1l hX1d hS hgS hxS hX2 hcs hck hq1 hPl hQl hRl
  generalize (P ++ (x.cells ++ (Q ++ (Q ++ R).drop (3 + Q.length)))).toArray = Z2 at *
  generalize (P ++ S).toArray = Z1 at *
  generalize hn : L.length = n at *
  clear hn
  have hw1 : IntKind.i64.wrap ((i : Int) + 1) = (i : Int) + 1 := by rw [IntKind.wrap_i64]; omega
  have hb1 : (0 : Int) ≤ (i : Int) + 1 := by omega
  have hb3 : (i : Int) ≤ (n : Int) := by omega
  have hb5 : (i : Int) ≤ (n : Int) + 1 := by omega
  have htn : ((i : Int) + 1).toNat = i + 1 := by omega
  have hb2 : ¬ (c = i + 1) := by omega
  have hb4 : ¬ (c = i) := by omega
  go_enter Tryz.func214, Tryz.ntmps214
  go_wp2_with (simp only [hov])
  go_region_law (refine step_copy_run rfl _ _ 68 68 rfl (.slice (some ⟨g, (i + 1) * 3, none⟩) (n - i) (c - (i + 1))) (.slice (some ⟨g, i * 3, none⟩) (n + 1 - i) (c - i)) _ (by simp [Act.eval, Act.put]) (by simp [Act.eval, Act.put]) (hcp1 _ _ _ _ _ _ _ rfl rfl rfl rfl) ?_)
  go_wp2_with (at_builtin; refine wpList_copy_run rfl _ _ 68 68 rfl (.slice (some ⟨g, i * 3, none⟩) (n + 1 - i) (c - i)) (.slice (some ⟨vb, 0, none⟩) 1 1) _ (by simp [Act.eval, Act.put]) (by simp [Act.eval, Act.put]) (hcp2 _ _ _ _ _ rfl rfl) ?_)
  go_ret
  exact HF.out

set_option maxRecDepth 100000 in
set_option maxHeartbeats 4000000 in
theorem insert_grow (g c i : Nat) (L : List Rn) (w : World) (hL : Lst w (.slice (some ⟨g, 0, none⟩) L.length c) L) (hi : i < L.length) (hroom : ¬ L.length + 1 ≤ c) (hlen : L.length ≤ 100000) (vb : Nat) (x : Rn) (hx : One w vb x) :
    Calls Tryz.prog 214 #[.slice (some ⟨g, 0, none⟩) L.length c, .int .i64 i, .slice (some ⟨vb, 0, none⟩) 1 1] w (LPost w (.slice (some ⟨g, 0, none⟩) L.length c) (L.take i ++ [x] ++ L.drop i)) := by
  obtain ⟨i0, hi0, hz0, hz1, hz2⟩ := info_parts info129
  have hnc : L.length ≤ c := by
    obtain ⟨a', c', hv, hcm⟩ := hL.slice
    simp only [Value.slice.injEq] at hv
    omega
  have hPl := rcells_take_len L i (by omega)
  have hQl := rcells_drop_len L i
  have hcell : ∀ j u, (rcells L)[j]? = some u → w.cell? ((⟨g, 0, none⟩ : Addr).add j) = some u := fun j u hu => World.ownsRow.cells hL (g := g) rfl j u hu
  have hPQ := take_drop_cells L i
  obtain ⟨P, hP⟩ : ∃ P, P = rcells (L.take i) := ⟨_, rfl⟩
  obtain ⟨Q, hQ⟩ : ∃ Q, Q = rcells (L.drop i) := ⟨_, rfl⟩
  rw [← hP] at hPl
  rw [← hQ] at hQl
  rw [← hP, ← hQ] at hPQ
  have hq1 : ∀ u ∈ Q, u.oneCell' = true := by rw [hQ]; exact rcells_one' _
  have hgw : g < w.heap.size := (own_lt hL g rfl).2
  have hvw : vb < w.heap.size := lt_of_heap hx
  have hold : (Builtin.firstCells i0.size i (.slice (some ⟨g, 0, none⟩) i c)).run Tryz.prog w.drew = .ok P.toArray w.drew := by
    rw [hz1]
    exact run_firstCells_some w.drew 3 i ⟨g, 0, none⟩ i c P hPl (fun j u hu => hcell j u (by rw [hPQ, List.getElem?_append_left (List.getElem?_eq_some_iff.1 hu).1, hu]))
  have hk1 : i + (L.length + 1 - i) = L.length + 1 := by omega
  have hkk : ((L.length + 1 - i : Nat) : Int) = (L.length : Int) + 1 - (i : Int) := by omega
  have hrz := fun ty => Lib.run_append_grow_zeros (P := Tryz.prog) w 68 3 ty 129 i0 _ .i64 .i64 Tryz.underlying68 Tryz.underlying3 hi0 hz0 (some ⟨g, 0, none⟩) i c P hold (L.length + 1 - i) (by omega) (by omega) (by omega) (by omega) (by rw [hz2]; omega) (by rw [hz2]; exact growslice_fits (by omega) (by omega))
  rw [hk1, hkk] at hrz
  obtain ⟨G, hG⟩ : ∃ G, G = grownCap w (L.length + 1) c 129 := ⟨_, rfl⟩
  have hGge : L.length + 1 ≤ G := by rw [hG]; exact grownCap_ge w _ c 129
  have hGm : G ≤ maxLen := by rw [hG]; exact grownCap_le_maxLen w _ c 129 (by unfold maxLen; omega)
  rw [← hG] at hrz
  obtain ⟨Zr, hZr⟩ : ∃ Zr : List Value, Zr = (Builtin.zeroCells (Value.agg #[.int .i64 0, .int .i64 0, .bool false]).cells (L.length + 1 - i)).toList ++ (Builtin.zeroCells (Value.agg #[.int .i64 0, .int .i64 0, .bool false]).cells (G - (L.length + 1))).toList := ⟨_, rfl⟩
  have hZl : Zr.length = (G - i) * 3 := by
    have h1 := zero_cells_len (L.length + 1 - i)
    have h2 := zero_cells_len (G - (L.length + 1))
    rw [← Array.length_toList] at h1 h2
    rw [hZr, List.length_append, h1, h2]; omega
  have hrow : P.toArray ++ Builtin.zeroCells (Value.agg #[.int .i64 0, .int .i64 0, .bool false]).cells (L.length + 1 - i) ++ Builtin.zeroCells (Value.agg #[.int .i64 0, .int .i64 0, .bool false]).cells (G - (L.length + 1)) = (P ++ Zr).toArray := by
    apply Array.toList_inj.1
    rw [hZr]; simp
  rw [hrow] at hrz
  have hE1 : Ext [] w (w.drew.alloc (.cells (P ++ Zr).toArray 129)) := (Ext.drew [] w).trans (Ext.alloc [] _ _)
  have hg1 : (w.drew.alloc (.cells (P ++ Zr).toArray 129)).heap[w.heap.size]? = some (.cells (P ++ Zr).toArray 129 (0, 0)) := heap_alloc_new w.drew _
  have hx1 := hx.keep hE1 (by simp)
  obtain ⟨W1, hW1⟩ : ∃ W1, W1 = w.drew.alloc (.cells (P ++ Zr).toArray 129) := ⟨_, rfl⟩
  rw [← hW1] at hrz hE1 hg1 hx1
  have hcp2 : ∀ ty o dl dc sc, o = i * 3 → dl = L.length + 1 - i → (Builtin.copy_ #[68, 68] ty #[.slice (some ⟨w.heap.size, o, none⟩) dl dc, .slice (some ⟨vb, 0, none⟩) 1 sc]).run Tryz.prog W1 = .ok (goInt ((1 : Nat) : Nat)) (W1.setRow w.heap.size (splice (P ++ Zr) (i * 3) x.cells).toArray) := by
    intro ty o dl dc sc ho hdl
    subst ho
    exact run_copy_k _ 68 68 ty 129 3 w.heap.size (i * 3) dl dc ⟨vb, 0, none⟩ 1 sc 1 (P ++ Zr) 129 x.cells Tryz.underlying68 size42' hg1 (by rw [hdl]; simp only [Nat.min_def]; split <;> omega) rfl hx1.cells (by simp only [List.length_append, cells_len]; omega) (cells_one x)
  rw [splice_left P Zr _ _ hPl, cells_len] at hcp2
  have hE2 : Ext [w.heap.size] W1 (W1.setRow w.heap.size (P ++ (x.cells ++ Zr.drop 3)).toArray) := Ext.setRow _ _ _ _ (by simp)
  have hg2 : (W1.setRow w.heap.size (P ++ (x.cells ++ Zr.drop 3)).toArray).heap[w.heap.size]? = some (.cells (P ++ (x.cells ++ Zr.drop 3)).toArray 129 (0, 0)) := setRow_heap _ _ _ _ _ _ hg1
  have hL2 : Lst (W1.setRow w.heap.size (P ++ (x.cells ++ Zr.drop 3)).toArray) (.slice (some ⟨g, 0, none⟩) L.length c) L := (hL.keep0 hE1).keep hE2 (by simp [Value.ownBlock]; omega)
  obtain ⟨W2, hW2⟩ : ∃ W2, W2 = W1.setRow w.heap.size (P ++ (x.cells ++ Zr.drop 3)).toArray := ⟨_, rfl⟩
  rw [← hW2] at hcp2 hE2 hg2 hL2
  have hcp3 : ∀ ty o dl dc so sl sc, o = (i + 1) * 3 → dl = L.length - i → so = i * 3 → sl = L.length - i → (Builtin.copy_ #[68, 68] ty #[.slice (some ⟨w.heap.size, o, none⟩) dl dc, .slice (some ⟨g, so, none⟩) sl sc]).run Tryz.prog W2.drew = .ok (goInt ((L.length - i : Nat) : Nat)) (W2.drew.setRow w.heap.size (splice (P ++ (x.cells ++ Zr.drop 3)) ((i + 1) * 3) Q).toArray) := by
    intro ty o dl dc so sl sc ho hdl hso hsl
    subst ho
    refine run_copy_k W2.drew 68 68 ty 129 3 w.heap.size ((i + 1) * 3) dl dc ⟨g, so, none⟩ sl sc (L.length - i) (P ++ (x.cells ++ Zr.drop 3)) 129 Q Tryz.underlying68 size42' hg2 (by rw [hdl, hsl]; simp only [Nat.min_def]; split <;> omega) hQl (fun j u hu => ?_) (by simp only [List.length_append, cells_len, List.length_drop]; omega) hq1
    have h := World.ownsRow.cells hL2 (g := g) rfl (i * 3 + j) u (by rw [hPQ, List.getElem?_append_right (by omega), show i * 3 + j - P.length = j by omega, hu])
    rw [Addr.add_lit] at h ⊢
    rw [hso]
    simpa using h
  rw [show P ++ (x.cells ++ Zr.drop 3) = (P ++ x.cells) ++ Zr.drop 3 by simp, splice_left (P ++ x.cells) (Zr.drop 3) _ _ (by simp [cells_len]; omega)] at hcp3
  have HF : Hid (LPost w (.slice (some ⟨g, 0, none⟩) L.length c) (L.take i ++ [x] ++ L.drop i) (.returned (.slice (some ⟨w.heap.size, 0, none⟩) (L.length + 1) G)) (W2.drew.setRow w.heap.size (P ++ x.cells ++ (Q ++ (Zr.drop 3).drop Q.length)).toArray)) := by
    refine ⟨_, rfl, ⟨?_, .inr ⟨w.heap.size, G, _, ?_, Nat.zero_le _, setRow_heap _ _ _ _ _ _ hg2, ?_, hGm, ?_, ?_⟩⟩, .inr (by simp [Value.ownBlock]), ?_⟩
    · rw [rcells_len]
    · congr 1; simp; omega
    · simp; omega
    · simp [cells_len]; omega
    · rw [show (L.take i ++ [x] ++ L.drop i).length = L.length + 1 by simp; omega]
      simp only [rcells_append, rcells_one, ← hP, ← hQ]
      rw [show P ++ x.cells ++ (Q ++ (Zr.drop 3).drop Q.length) = (P ++ x.cells ++ Q) ++ (Zr.drop 3).drop Q.length by simp, List.take_left' (by simp [cells_len]; omega)]
    · refine Ext.mono (S := []) ?_ (by simp)
      exact ((hE1.on hE2 (by simp)).trans (Ext.drew [] _)).on (Ext.setRow [w.heap.size] _ _ _ (by simp)) (by simp)
  clear hx hL hPQ hP hQ hg1 hg2 hL2 hx1 hE1 hE2 hW1 hW2 hZr hZl hrow hG hold hcell hq1 hPl hQl hi0 hz0 hz1 hz2 hk1 hkk hgw hvw
  generalize (P ++ x.cells ++ (Q ++ (Zr.drop 3).drop Q.length)).toArray = Z3 at *
  generalize hn : L.length = n at *
  clear hn
  have hw1 : IntKind.i64.wrap ((i : Int) + 1) = (i : Int) + 1 := by rw [IntKind.wrap_i64]; omega
  have hb1 : (0 : Int) ≤ (i : Int) + 1 := by omega
  have hb3 : (i : Int) ≤ (n : Int) := by omega
  have hb5 : (i : Int) ≤ (n : Int) + 1 := by omega
  have htn : ((i : Int) + 1).toNat = i + 1 := by omega
  have hb2 : ¬ (G = i + 1) := by omega
  have hb4 : ¬ (c = i) := by omega
  have hb6 : ¬ (G = i) := by omega
  unfold maxLen at hGm
  go_enter Tryz.func214, Tryz.ntmps214
  go_wp2_with (at_builtin; first
    | refine wpList_append_run2 rfl _ _ 68 3 rfl _ _ _ rfl rfl (hrz _) ?_
    | refine wpList_copy_run rfl _ _ 68 68 rfl (.slice (some ⟨w.heap.size, i * 3, none⟩) (n + 1 - i) (G - i)) (.slice (some ⟨vb, 0, none⟩) 1 1) _ (by simp [Act.eval, Act.put]) (by simp [Act.eval, Act.put]) (hcp2 _ _ _ _ _ rfl rfl) ?_)
  go_region_law (refine step_copy_run rfl _ _ 68 68 rfl (.slice (some ⟨w.heap.size, (i + 1) * 3, none⟩) (n - i) (G - (i + 1))) (.slice (some ⟨g, i * 3, none⟩) (n - i) (c - i)) _ (by simp [Act.eval, Act.put]) (by simp [Act.eval, Act.put]) (hcp3 _ _ _ _ _ _ _ rfl rfl rfl rfl) ?_)
  go_wp2_with fail
  go_ret
  exact HF.out

/-- slices.Insert of one run. -/
theorem insert_any (v : Value) (i : Nat) (L : List Rn) (w : World) (hL : Lst w v L) (h0 : 0 < L.length) (hi : i ≤ L.length) (hlen : L.length ≤ 100000) (vb : Nat) (x : Rn) (hx : One w vb x) (hne : v.ownBlock ≠ some vb) :
    Calls Tryz.prog 214 #[v, .int .i64 i, .slice (some ⟨vb, 0, none⟩) 1 1] w (LPost w v (L.take i ++ [x] ++ L.drop i)) := by
  by_cases he : i = L.length
  · subst he
    rw [List.take_length, List.drop_length, List.append_nil]
    exact insert_end v L w hL h0 hlen vb x hx
  · obtain ⟨g, c, rfl, _⟩ := hL.at_ h0
    have hne2 : vb ≠ g := by rintro rfl; exact hne rfl
    by_cases hroom : L.length + 1 ≤ c
    · exact insert_shift g c i L w hL (by omega) hroom hlen vb x hx hne2
    · exact insert_grow g c i L w hL (by omega) hroom hlen vb x hx

end Go.Proofs.YtbpjmcjjambdkaaGreatDoor

/-
  slices.Replace at lists of runs, some runs by one; no statement is proved here.
-/
namespace Go.Proofs.YtbpjmcjjambdkaaGreatDoor
open Go.RowKit

/-- m zero runs. -/
def zruns (m : Nat) : List Value := (Builtin.zeroCells (Value.agg #[.int .i64 0, .int .i64 0, .bool false]).cells m).toList
theorem zruns_len (m : Nat) : (zruns m).length = m * 3 := by
  have h1 := zero_cells_len m
  rw [← Array.length_toList] at h1
  exact h1
theorem zruns_one (m : Nat) : ∀ u ∈ zruns m, u.oneCell' = true := by
  intro u hu
  simp only [zruns, Builtin.zeroCells, Value.cells, Array.toList_map, List.mem_map] at hu
  obtain ⟨k, _, rfl⟩ := hu
  have : k % 3 < 3 := Nat.mod_lt _ (by omega)
  have h3 : k % 3 = 0 ∨ k % 3 = 1 ∨ k % 3 = 2 := by omega
  show Value.oneCell' ((#[Value.int .i64 0, .int .i64 0, .bool false] : Array Value)[k % 3]!) = true
  rcases h3 with h | h | h <;> rw [h] <;> rfl

theorem run_clear_r (w : World) (ty : TypeId) (g o m c : Nat) (cur : List Value) (hg : w.heap[g]? = some (.cells cur.toArray 129 (0, 0))) (h0 : 0 < m) (hfit : o + m * 3 ≤ cur.length) :
    (Builtin.clear_ #[68] ty #[.slice (some ⟨g, o, none⟩) m c]).run Tryz.prog w = .ok (.tuple #[]) (w.setRow g (splice cur o (zruns m)).toArray) := by
  obtain ⟨i, hi, hz0, hz1, hz2⟩ := info_parts info129
  have hst := run_storeCells_at Tryz.prog g o 129 (zruns m) 0 cur.toArray w hg (by simp [zruns_len]; exact hfit) (zruns_one m)
  simp only [Nat.add_zero] at hst
  obtain ⟨k, rfl⟩ : ∃ k, m = k + 1 := ⟨m - 1, by omega⟩
  rw [show zruns (k + 1) = (Builtin.zeroCells (Value.agg #[.int .i64 0, .int .i64 0, .bool false]).cells (k + 1)).toList from rfl] at hst ⊢
  simp [Builtin.clear_, run_underlying Tryz.underlying68, zeroValue, typeInfo, hi, hz0, hst, splice]

theorem wpList_clear_run {P : Program} {w w' : World} {ops : Array Oper} {rest : List Oper} {o : Oper} {a : Act} {Q : Exit → Act → World → Prop} (hgd : o.guard = none) (d : Operand) (t : TypeId)
    (ho : o.op = .call { callee := .builtin .clear, args := #[d], argTypes := #[t] }) (vd v' : Value) (hd : a.eval d = vd)
    (hr : (Builtin.clear_ #[t] o.type #[vd]).run P w = .ok v' w') (h : wpList P ops Q rest (a.put o.dst v') w') : wpList P ops Q (o :: rest) a w := by
  refine wpList_plain hgd fun K hK => ?_
  unfold Oper.wp execOp
  simp only [ho, resolve, invoke, builtin, Sem.run_bind, Sem.run_pure, Result.andThen_ok, List.map_toArray, List.map_cons, List.map_nil, hd, hr]
  exact hK _ _ h

/-- A row that opens with the cells of a list holds the list. -/
theorem lst_open {w : World} {g c : Nat} (L : List Rn) (n : Nat) (hn : L.length = n) (T : List Value) (h : w.heap[g]? = some (.cells (rcells L ++ T).toArray 129 (0, 0))) (hc : n ≤ c) (hm : c ≤ maxLen) (hl : (rcells L ++ T).length = c * 3) : Lst w (.slice (some ⟨g, 0, none⟩) n c) L := by
  subst hn
  exact ⟨rcells_len L, .inr ⟨g, c, _, rfl, Nat.zero_le _, h, hc, hm, by simpa using hl, by simp only []; rw [List.take_left' (rcells_len L)]⟩⟩

set_option maxRecDepth 100000 in
set_option maxHeartbeats 4000000 in
theorem replace_end (g c i : Nat) (L : List Rn) (w : World) (hL : Lst w (.slice (some ⟨g, 0, none⟩) L.length c) L) (hi : i < L.length) (hlen : L.length ≤ 100000) (vb : Nat) (x : Rn) (hx : One w vb x) :
    Calls Tryz.prog 206 #[.slice (some ⟨g, 0, none⟩) L.length c, .int .i64 i, .int .i64 L.length, .slice (some ⟨vb, 0, none⟩) 1 1] w (LPost w (.slice (some ⟨g, 0, none⟩) L.length c) (L.take i ++ [x])) := by
  rcases hL.2 with ⟨h0, _⟩ | ⟨g', c', cur, hv, _, hg, hnc, hcm, hcs, hck⟩
  · cases h0
  simp only [Value.slice.injEq, Option.some.injEq, Addr.mk.injEq, and_true, true_and] at hv
  obtain ⟨rfl, rfl⟩ := hv
  obtain ⟨i0, hi0, hz0, hz1, hz2⟩ := info_parts info129
  have hC : cur.toList = rcells (L.take i) ++ cur.toList.drop (i * 3) := by
    rw [← List.take_append_drop (i * 3) cur.toList]
    congr 1
    · have : (cur.toList.take (L.length * 3)).take (i * 3) = rcells (L.take i) := by
        rw [hck, take_drop_cells L i, List.take_left' (rcells_take_len L i (by omega))]
      rw [← this, List.take_take, Nat.min_eq_left (by omega)]
    · rw [List.take_append_drop]
  have hPl := rcells_take_len L i (by omega)
  obtain ⟨R, hR⟩ : ∃ R, R = cur.toList.drop (i * 3) := ⟨_, rfl⟩
  have hRl : R.length = (c - i) * 3 := by rw [hR, List.length_drop, Array.length_toList, hcs]; omega
  rw [← hR] at hC
  have hr := fun ty => run_append_room (P := Tryz.prog) w 68 ty 129 i0 Tryz.underlying68 hi0 g i c cur hg ⟨vb, 0, none⟩ 1 1 x.cells (by rw [hz1]; rfl) hx.cells (cells_one x) (by omega) (by rw [hz1, hcs, cells_len]; omega)
  rw [hz1, hC, List.take_left' hPl, cells_len, ← List.drop_drop, List.drop_left' hPl] at hr
  have hg1 : (w.setRow g (rcells (L.take i) ++ x.cells ++ R.drop 3).toArray).heap[g]? = some (.cells (rcells (L.take i) ++ x.cells ++ R.drop 3).toArray 129 (0, 0)) := setRow_heap _ _ _ _ _ _ hg
  have hE1 : Ext [g] w (w.setRow g (rcells (L.take i) ++ x.cells ++ R.drop 3).toArray) := Ext.setRow _ _ _ _ (by simp)
  have hl' : (L.take i ++ [x]).length = i + 1 := by simp; omega
  have e1 : rcells (L.take i) ++ x.cells ++ R.drop 3 = rcells (L.take i ++ [x]) ++ R.drop 3 := by rw [rcells_append, rcells_one]
  rw [e1] at hr hg1 hE1
  have hAl : (rcells (L.take i ++ [x])).length = (i + 1) * 3 := by rw [rcells_len, hl']
  obtain ⟨W1, hW1⟩ : ∃ W1, W1 = w.setRow g (rcells (L.take i ++ [x]) ++ R.drop 3).toArray := ⟨_, rfl⟩
  rw [← hW1] at hr hg1 hE1
  clear hW1
  by_cases hend : i + 1 = L.length
  · have HF : Hid (LPost w (.slice (some ⟨g, 0, none⟩) L.length c) (L.take i ++ [x]) (.returned (.slice (some ⟨g, 0, none⟩) (i + 1) c)) W1) :=
      ⟨_, rfl, lst_open _ _ hl' _ hg1 (by omega) hcm (by rw [List.length_append, hAl, List.length_drop]; omega), .inl rfl, hE1⟩
    clear hx hL hg hcs hck hC hPl hRl hR hg1 hE1 hl' e1 hAl hi0 hz0 hz1 hz2
    generalize hn : L.length = n at *
    clear hn
    unfold maxLen at hcm
    subst hend
    go_enter Tryz.func206, Tryz.ntmps206
    go_wp2_with (at_builtin; refine wpList_append_run rfl _ _ 68 rfl _ _ _ rfl rfl (hr _) ?_)
    all_goals go_ret
    all_goals exact HF.out
  · have hcl := fun ty c' => run_clear_r W1 ty g ((i + 1) * 3) (L.length - (i + 1)) c' _ hg1 (by omega) (by rw [List.length_append, hAl, List.length_drop]; omega)
    rw [splice_left _ _ _ _ hAl] at hcl
    have hg2 := setRow_heap W1 g _ (rcells (L.take i ++ [x]) ++ (zruns (L.length - (i + 1)) ++ (R.drop 3).drop (zruns (L.length - (i + 1))).length)).toArray 129 _ hg1
    have HF : Hid (LPost w (.slice (some ⟨g, 0, none⟩) L.length c) (L.take i ++ [x]) (.returned (.slice (some ⟨g, 0, none⟩) (i + 1) c)) (W1.setRow g (rcells (L.take i ++ [x]) ++ (zruns (L.length - (i + 1)) ++ (R.drop 3).drop (zruns (L.length - (i + 1))).length)).toArray)) :=
      ⟨_, rfl, lst_open _ _ hl' _ hg2 (by omega) hcm (by simp only [List.length_append, hAl, List.length_drop, zruns_len]; omega), .inl rfl, hE1.trans (Ext.setRow _ _ _ _ (by simp))⟩
    generalize (rcells (L.take i ++ [x]) ++ (zruns (L.length - (i + 1)) ++ (R.drop 3).drop (zruns (L.length - (i + 1))).length)).toArray = Z2 at *
    clear hx hL hg hcs hck hC hPl hRl hR hg1 hg2 hE1 hl' e1 hAl hi0 hz0 hz1 hz2
    generalize hn : L.length = n at *
    clear hn
    unfold maxLen at hcm
    have hb1 : ¬ (c = i + 1) := by omega
    have hb2 : ¬ (c = i) := by omega
    have hb3 : (i : Int) + 1 ≤ n := by omega
    have hb4 : (i : Int) + 1 < n := by omega
    have htn : ((i : Int) + 1).toNat = i + 1 := by omega
    go_enter Tryz.func206, Tryz.ntmps206
    go_wp2_with (first
      | (at_builtin; refine wpList_append_run rfl _ _ 68 rfl _ _ _ rfl rfl (hr _) ?_)
      | (at_builtin; refine wpList_clear_run rfl _ 68 rfl _ _ rfl (hcl _ _) ?_))
    go_ret
    exact HF.out

theorem lst_open2 {w : World} {g c : Nat} (L : List Rn) (n : Nat) (hn : L.length = n) (A T : List Value) (hA : A = rcells L) (h : w.heap[g]? = some (.cells (A ++ T).toArray 129 (0, 0))) (hc : n ≤ c) (hm : c ≤ maxLen) (hl : (A ++ T).length = c * 3) : Lst w (.slice (some ⟨g, 0, none⟩) n c) L := by
  subst hA
  exact lst_open L n hn T h hc hm hl

set_option maxRecDepth 100000 in
set_option maxHeartbeats 4000000 in
theorem replace_mid (g c i j : Nat) (L : List Rn) (w : World) (hL : Lst w (.slice (some ⟨g, 0, none⟩) L.length c) L) (hi : i < j) (hj : j < L.length) (hlen : L.length ≤ 100000) (vb : Nat) (x : Rn) (hx : One w vb x) :
    Calls Tryz.prog 206 #[.slice (some ⟨g, 0, none⟩) L.length c, .int .i64 i, .int .i64 j, .slice (some ⟨vb, 0, none⟩) 1 1] w (LPost w (.slice (some ⟨g, 0, none⟩) L.length c) (L.take i ++ [x] ++ L.drop j)) := by
  rcases hL.2 with ⟨h0, _⟩ | ⟨g', c', cur, hv, _, hg, hnc, hcm, hcs, hck⟩
  · cases h0
  simp only [Value.slice.injEq, Option.some.injEq, Addr.mk.injEq, and_true, true_and] at hv
  obtain ⟨rfl, rfl⟩ := hv
  have hC : cur.toList = rcells (L.take i) ++ (rcells ((L.take j).drop i) ++ (rcells (L.drop j) ++ cur.toList.drop (L.length * 3))) := by
    rw [← List.append_assoc, ← List.append_assoc, ← rcells_append, ← rcells_append]
    have : L.take i ++ (L.take j).drop i ++ L.drop j = L := by
      rw [show L.take i = (L.take j).take i by rw [List.take_take, Nat.min_eq_left (by omega)], List.take_append_drop, List.take_append_drop]
    rw [this, ← hck, List.take_append_drop]
  have hPl := rcells_take_len L i (by omega)
  have hMl : (rcells ((L.take j).drop i)).length = (j - i) * 3 := by rw [rcells_len]; simp; omega
  have hQl := rcells_drop_len L j
  have hl' : (L.take i ++ [x] ++ L.drop j).length = i + 1 + (L.length - j) := by simp; omega
  have hAl : (rcells (L.take i ++ [x] ++ L.drop j)).length = (i + 1 + (L.length - j)) * 3 := by rw [rcells_len, hl']
  have eA : rcells (L.take i ++ [x] ++ L.drop j) = rcells (L.take i) ++ (x.cells ++ rcells (L.drop j)) := by rw [rcells_append, rcells_append, rcells_one, List.append_assoc]
  have hq1 := rcells_one' (L.drop j)
  obtain ⟨A, hA⟩ : ∃ A, A = rcells (L.take i ++ [x] ++ L.drop j) := ⟨_, rfl⟩
  obtain ⟨P, hP⟩ : ∃ P, P = rcells (L.take i) := ⟨_, rfl⟩
  obtain ⟨M, hM⟩ : ∃ M, M = rcells ((L.take j).drop i) := ⟨_, rfl⟩
  obtain ⟨Q, hQ⟩ : ∃ Q, Q = rcells (L.drop j) := ⟨_, rfl⟩
  obtain ⟨R, hR⟩ : ∃ R, R = cur.toList.drop (L.length * 3) := ⟨_, rfl⟩
  have hRl : R.length = (c - L.length) * 3 := by rw [hR, List.length_drop, Array.length_toList, hcs]; omega
  rw [← hP, ← hM, ← hQ, ← hR] at hC
  rw [← hA, ← hP, ← hQ] at eA
  rw [← hP] at hPl
  rw [← hM] at hMl
  rw [← hQ] at hQl hq1
  rw [← hA] at hAl
  have hg0 : w.heap[g]? = some (.cells (P ++ (M ++ (Q ++ R))).toArray 129 (0, 0)) := by rw [hg, ← hC]
  -- the first copy, in whatever number of draws
  have hcp1 : ∀ nq ty o dl dc sc, o = i * 3 → dl = i + 1 + (L.length - j) - i → (Builtin.copy_ #[68, 68] ty #[.slice (some ⟨g, o, none⟩) dl dc, .slice (some ⟨vb, 0, none⟩) 1 sc]).run Tryz.prog (w.drewN nq) = .ok (goInt ((1 : Nat) : Nat)) ((w.drewN nq).setRow g (splice (P ++ (M ++ (Q ++ R))) (i * 3) x.cells).toArray) := by
    intro nq ty o dl dc sc ho hdl
    subst ho
    exact run_copy_k _ 68 68 ty 129 3 g (i * 3) dl dc ⟨vb, 0, none⟩ 1 sc 1 _ 129 x.cells Tryz.underlying68 size42' hg0 (by simp only [Nat.min_def]; split <;> omega) rfl hx.cells (by simp only [List.length_append, cells_len]; omega) (cells_one x)
  have eM : (M ++ (Q ++ R)).drop 3 = M.drop 3 ++ (Q ++ R) := by rw [List.drop_append_of_le_length (by omega)]
  rw [splice_left P _ _ _ hPl, cells_len, eM] at hcp1
  have hg1 : ∀ nq, ((w.drewN nq).setRow g (P ++ (x.cells ++ (M.drop 3 ++ (Q ++ R)))).toArray).heap[g]? = some (.cells (P ++ (x.cells ++ (M.drop 3 ++ (Q ++ R)))).toArray 129 (0, 0)) := fun nq => setRow_heap (w.drewN nq) _ _ _ _ _ hg0
  have hg1d : ∀ nq, ((w.drewN nq).setRow g (P ++ (x.cells ++ (M.drop 3 ++ (Q ++ R)))).toArray).drew.heap[g]? = some (.cells (P ++ (x.cells ++ (M.drop 3 ++ (Q ++ R)))).toArray 129 (0, 0)) := hg1
  have hcp2 : ∀ nq ty o dl dc so sl sc, o = (i + 1) * 3 → dl = L.length - j → so = j * 3 → sl = L.length - j → (Builtin.copy_ #[68, 68] ty #[.slice (some ⟨g, o, none⟩) dl dc, .slice (some ⟨g, so, none⟩) sl sc]).run Tryz.prog ((w.drewN nq).setRow g (P ++ (x.cells ++ (M.drop 3 ++ (Q ++ R)))).toArray).drew = .ok (goInt ((L.length - j : Nat) : Nat)) (((w.drewN nq).setRow g (P ++ (x.cells ++ (M.drop 3 ++ (Q ++ R)))).toArray).drew.setRow g (splice (P ++ (x.cells ++ (M.drop 3 ++ (Q ++ R)))) ((i + 1) * 3) Q).toArray) := by
    intro nq ty o dl dc so sl sc ho hdl hso hsl
    subst ho
    refine run_copy_k _ 68 68 ty 129 3 g ((i + 1) * 3) dl dc ⟨g, so, none⟩ sl sc (L.length - j) _ 129 Q Tryz.underlying68 size42' (hg1 nq) (by rw [hdl, hsl]; simp) hQl (fun k u hu => ?_) (by simp only [List.length_append, cells_len, List.length_drop]; omega) hq1
    have hk := (List.getElem?_eq_some_iff.1 hu).1
    rw [Addr.add_lit, cell_of_row _ g _ _ _ _ (hg1d nq), hso]
    simp only [List.getElem?_toArray]
    rw [show P ++ (x.cells ++ (M.drop 3 ++ (Q ++ R))) = (P ++ (x.cells ++ M.drop 3)) ++ (Q ++ R) by simp, List.getElem?_append_right (by simp [cells_len]; omega), List.getElem?_append_left (by simp [cells_len]; omega), ← hu]
    congr 1
    simp [cells_len]; omega
  have e2 : splice (P ++ (x.cells ++ (M.drop 3 ++ (Q ++ R)))) ((i + 1) * 3) Q = A ++ (M.drop 3 ++ (Q ++ R)).drop Q.length := by
    rw [show P ++ (x.cells ++ (M.drop 3 ++ (Q ++ R))) = (P ++ x.cells) ++ (M.drop 3 ++ (Q ++ R)) by simp, splice_left _ _ _ _ (by simp [cells_len]; omega), eA]
    simp
  rw [e2] at hcp2
  obtain ⟨T, hT⟩ : ∃ T, T = (M.drop 3 ++ (Q ++ R)).drop Q.length := ⟨_, rfl⟩
  have hTl : T.length = (c - (i + 1 + (L.length - j))) * 3 := by rw [hT]; simp; omega
  rw [← hT] at hcp2
  have hg2 : ∀ nq, (((w.drewN nq).setRow g (P ++ (x.cells ++ (M.drop 3 ++ (Q ++ R)))).toArray).drew.setRow g (A ++ T).toArray).heap[g]? = some (.cells (A ++ T).toArray 129 (0, 0)) := fun nq => setRow_heap (World.drew _) _ _ _ _ _ (hg1 nq)
  have hE2 : ∀ nq, Ext [g] w (((w.drewN nq).setRow g (P ++ (x.cells ++ (M.drop 3 ++ (Q ++ R)))).toArray).drew.setRow g (A ++ T).toArray) := fun nq => (((Ext.drewN _ w nq).trans (Ext.setRow _ _ _ _ (by simp))).trans (Ext.drew _ _)).trans (Ext.setRow _ _ _ _ (by simp))
  by_cases hend : i + 1 = j
  · have HF : Hid (∀ nq, LPost w (.slice (some ⟨g, 0, none⟩) L.length c) (L.take i ++ [x] ++ L.drop j) (.returned (.slice (some ⟨g, 0, none⟩) (i + 1 + (L.length - j)) c)) (((w.drewN nq).setRow g (P ++ (x.cells ++ (M.drop 3 ++ (Q ++ R)))).toArray).drew.setRow g (A ++ T).toArray)) := fun nq =>
      ⟨_, rfl, lst_open2 _ _ hl' A T hA (hg2 nq) (by omega) hcm (by rw [List.length_append, hAl, hTl]; omega), .inl rfl, hE2 nq⟩
    generalize L.take i ++ [x] ++ L.drop j = L' at *
    generalize (A ++ T).toArray = Z2 at *
    generalize (P ++ (x.cells ++ (M.drop 3 ++ (Q ++ R)))).toArray = Z1 at *
    clear hx hL hg hcs hck hC hPl hMl hQl hRl hR hg1 hg1d hg2 hE2 hl' eA hAl hA hP hM hQ hT hTl eM e2 hq1 hg0
    generalize hn : L.length = n at *
    clear hn
    unfold maxLen at hcm
    obtain ⟨m, rfl⟩ : ∃ m, n = j + m := ⟨n - j, by omega⟩
    subst hend
    rw [show i + 1 + m - (i + 1) = m by omega] at hcp1 hcp2 HF
    have hcl : ∀ ty a c' W, (Builtin.clear_ #[68] ty #[.slice a 0 c']).run Tryz.prog W = .ok (.tuple #[]) W := fun ty a c' W => by
      cases a <;> simp [Builtin.clear_, run_underlying Tryz.underlying68]
    have hb1 : ¬ (c = i + 1) := by omega
    have hb2 : ¬ (c = i) := by omega
    have hb4 : (i : Int) ≤ ((i + 1 + m : Nat) : Int) := by omega
    have htn : ((i : Int) + 1).toNat = i + 1 := by omega
    have hsb : i + 1 + m - (i + 1) = m := by omega
    have hw1 : IntKind.i64.wrap ((i : Int) + 1) = (i : Int) + 1 := by rw [IntKind.wrap_i64]; omega
    have hb9 : (0 : Int) ≤ (i : Int) + 1 := by omega
    go_enter Tryz.func206, Tryz.ntmps206
    go_wp2_with fail
    go_quiet (fail)
    go_wp2_with fail
    have hb12 : (i : Int) + 1 ≤ (i : Int) + 1 + (m : Int) := by omega
    have hb13 : i + 1 ≤ i + 1 + m := by omega
    have hb14 : (((i : Int) + 1 + (m : Int))).toNat = i + 1 + m := by omega
    have hb15 : (0 : Int) ≤ (i : Int) + 1 + (m : Int) := by omega
    go_region_law (refine step_copy_run rfl _ _ 68 68 rfl (.slice (some ⟨g, (i + 1) * 3, none⟩) m (c - (i + 1))) (.slice (some ⟨g, (i + 1) * 3, none⟩) m (c - (i + 1))) _ (by simp [Act.eval, Act.put]) (by simp [Act.eval, Act.put]) (hcp2 _ _ _ _ _ _ _ _ rfl rfl rfl rfl) ?_)
    go_wp2_with fail
    all_goals go_ret
    all_goals first
      | exact HF.out _
      | (have hce : c = i + 1 + m := by assumption
         have hf := HF.out
         rw [hce] at hf
         exact hf _)
  · have hcl := fun nq ty c' => run_clear_r _ ty g ((i + 1 + (L.length - j)) * 3) (L.length - (i + 1 + (L.length - j))) c' _ (hg2 nq) (by omega) (by rw [List.length_append, hAl, hTl]; omega)
    rw [splice_left _ _ _ _ hAl] at hcl
    obtain ⟨T3, hT3⟩ : ∃ T3, T3 = zruns (L.length - (i + 1 + (L.length - j))) ++ T.drop (zruns (L.length - (i + 1 + (L.length - j)))).length := ⟨_, rfl⟩
    have hT3l : T3.length = T.length := by rw [hT3, List.length_append, List.length_drop, zruns_len, hTl]; omega
    rw [← hT3] at hcl
    have hg3 := fun nq => setRow_heap _ g _ (A ++ T3).toArray 129 _ (hg2 nq)
    have HF : Hid (∀ nq, LPost w (.slice (some ⟨g, 0, none⟩) L.length c) (L.take i ++ [x] ++ L.drop j) (.returned (.slice (some ⟨g, 0, none⟩) (i + 1 + (L.length - j)) c)) ((((w.drewN nq).setRow g (P ++ (x.cells ++ (M.drop 3 ++ (Q ++ R)))).toArray).drew.setRow g (A ++ T).toArray).setRow g (A ++ T3).toArray)) := fun nq => by
      refine ⟨_, rfl, lst_open2 _ _ hl' A T3 hA (hg3 nq) (by omega) hcm (by rw [List.length_append, hAl, hT3l, hTl]; omega), .inl rfl, (hE2 nq).trans (Ext.setRow _ _ _ _ (by simp))⟩
    generalize (A ++ T3).toArray = Z3 at *
    generalize L.take i ++ [x] ++ L.drop j = L' at *
    generalize (A ++ T).toArray = Z2 at *
    generalize (P ++ (x.cells ++ (M.drop 3 ++ (Q ++ R)))).toArray = Z1 at *
    clear hx hL hg hcs hck hC hPl hMl hQl hRl hR hg1 hg1d hg2 hg3 hE2 hl' eA hAl hA hP hM hQ hT hTl hT3 hT3l eM e2 hq1 hg0
    generalize hn : L.length = n at *
    clear hn
    unfold maxLen at hcm
    have hb1 : ¬ (c = i + 1) := by omega
    have hb2 : ¬ (c = i) := by omega
    have hb3 : ¬ (c = j) := by omega
    have hb4 : (i : Int) ≤ n := by omega
    have htn : ((i : Int) + 1).toNat = i + 1 := by omega
    go_enter Tryz.func206, Tryz.ntmps206
    have htn2 : ((i : Int) + 1 + ((n - j : Nat) : Int)).toNat = i + 1 + (n - j) := by omega
    have hw1 : IntKind.i64.wrap ((i : Int) + 1) = (i : Int) + 1 := by rw [IntKind.wrap_i64]; omega
    have hb5 : ¬ (c = i + 1 + (n - j)) := by omega
    have hb6 : (i : Int) + 1 + ((n - j : Nat) : Int) ≤ n := by omega
    have hb7 : (i : Int) ≤ (i : Int) + 1 + ((n - j : Nat) : Int) := by omega
    have hb8 : (i : Int) + 1 ≤ (i : Int) + 1 + ((n - j : Nat) : Int) := by omega
    have hb9 : (0 : Int) ≤ (i : Int) + 1 := by omega
    have hb10 : j ≤ n := by omega
    have hb11 : (j : Int) ≤ n := by omega
    go_wp2_with fail
    go_quiet (fail)
    go_wp2_with fail
    go_region_law (refine step_copy_run rfl _ _ 68 68 rfl (.slice (some ⟨g, (i + 1) * 3, none⟩) (n - j) (c - (i + 1))) (.slice (some ⟨g, j * 3, none⟩) (n - j) (c - j)) _ (by simp [Act.eval, Act.put]) (by simp [Act.eval, Act.put]) (hcp2 _ _ _ _ _ _ _ _ rfl rfl rfl rfl) ?_)
    go_wp2_with fail
    go_ret
    exact HF.out _

/-- slices.Replace of some runs by one. -/
theorem replace_any (v : Value) (i j : Nat) (L : List Rn) (w : World) (hL : Lst w v L) (hi : i < j) (hj : j ≤ L.length) (hlen : L.length ≤ 100000) (vb : Nat) (x : Rn) (hx : One w vb x) :
    Calls Tryz.prog 206 #[v, .int .i64 i, .int .i64 j, .slice (some ⟨vb, 0, none⟩) 1 1] w (LPost w v (L.take i ++ [x] ++ L.drop j)) := by
  obtain ⟨g, c, rfl, _⟩ := hL.at_ (by omega)
  by_cases he : j = L.length
  · subst he
    rw [List.drop_length, List.append_nil]
    exact replace_end g c i L w hL hi hlen vb x hx
  · exact replace_mid g c i j L w hL hi (by omega) hlen vb x hx

end Go.Proofs.YtbpjmcjjambdkaaGreatDoor
