/-
  slices.Insert at lists of runs, one run put in; no statement is proved here.
-/
import Derived.Test.YtlajjcboahflbaaDoorBase
import Derived.Lib.Overlaps
import Derived.Lib.AppendZerosOnto
import Derived.Deep.RegionLaw
namespace Go.Proofs.YtlajjcboahflbaaDoor
open Go.RowKit

/-! ### copy and append at runs -/

/-- copy between slices of elements of k cells, the target a row that is known whole. -/
theorem run_copy_k {P : Program} (w : World) (dT sT ty elem : TypeId) (k g o dLen dCap : Nat) (a : Addr) (sLen sCap m : Nat) (cur : List Value) (t : TypeId) (cs : List Value)
    (hu : P.underlying dT = some (.slice elem)) (hs : (P.info? elem).map (·.size) = some k) (hg : w.heap[g]? = some (.cells cur.toArray t (0, 0))) (hm : Nat.min sLen dLen = m) (hn : cs.length = m * k)
    (hsrc : ∀ j v, cs[j]? = some v → w.cell? (a.add j) = some v) (hfit : o + cs.length ≤ cur.length) (h1 : ∀ v ∈ cs, v.oneCell' = true) :
    (Builtin.copy_ #[dT, sT] ty #[.slice (some ⟨g, o, none⟩) dLen dCap, .slice (some a) sLen sCap]).run P w = .ok (goInt m) (w.setRow g (splice cur o cs).toArray) := by
  have hf := run_firstCells_some (P := P) w k m a sLen sCap cs hn hsrc
  have hst := run_storeCells_at P g o t cs 0 cur.toArray w hg (by simpa using hfit) h1
  cases hq : P.info? elem with
  | none => simp [hq] at hs
  | some i =>
    have hi : i.size = k := by simpa [hq] using hs
    simp only [Nat.add_zero] at hst
    simp [Builtin.copy_, run_underlying hu, Builtin.lenOf, sizeOf, typeInfo, hq, hi, hm, hf, hst, splice]

theorem wpList_copy_run {P : Program} {w w' : World} {ops : Array Oper} {rest : List Oper} {o : Oper} {a : Act} {Q : Exit → Act → World → Prop} (hgd : o.guard = none) (d s : Operand) (t t' : TypeId)
    (ho : o.op = .call { callee := .builtin .copy, args := #[d, s], argTypes := #[t, t'] }) (vd vs v' : Value) (hd : a.eval d = vd) (hs : a.eval s = vs)
    (hr : (Builtin.copy_ #[t, t'] o.type #[vd, vs]).run P w = .ok v' w') (h : wpList P ops Q rest (a.put o.dst v') w') : wpList P ops Q (o :: rest) a w := by
  refine wpList_plain hgd fun K hK => ?_
  unfold Oper.wp execOp
  simp only [ho, resolve, invoke, builtin, Sem.run_bind, Sem.run_pure, Result.andThen_ok, List.map_toArray, List.map_cons, List.map_nil, hd, hs, hr]
  exact hK _ _ h

theorem wpList_append_run2 {P : Program} {w w' : World} {ops : Array Oper} {rest : List Oper} {o : Oper} {a : Act} {Q : Exit → Act → World → Prop} (hgd : o.guard = none) (s x : Operand) (t t' : TypeId)
    (ho : o.op = .call { callee := .builtin .append, args := #[s, x], argTypes := #[t, t'] }) (vs vx v' : Value) (hs : a.eval s = vs) (hx : a.eval x = vx)
    (hr : (Builtin.append_ #[t, t'] o.type #[vs, vx]).run P w = .ok v' w') (h : wpList P ops Q rest (a.put o.dst v') w') : wpList P ops Q (o :: rest) a w := by
  refine wpList_plain hgd fun K hK => ?_
  unfold Oper.wp execOp
  simp only [ho, resolve, invoke, builtin, Sem.run_bind, Sem.run_pure, Result.andThen_ok, List.map_toArray, List.map_cons, List.map_nil, hs, hx, hr]
  exact hK _ _ h

theorem step_copy_run {P : Program} {ops : Array Oper} {o : Oper} {a : Act} {w w' : World} {K : Act → World → Prop} {Q : Exit → Act → World → Prop} {E : Prop} (hgd : o.guard = none) (d s : Operand) (t t' : TypeId)
    (ho : o.op = .call { callee := .builtin .copy, args := #[d, s], argTypes := #[t, t'] }) (vd vs v' : Value) (hd : a.eval d = vd) (hs : a.eval s = vs)
    (hr : (Builtin.copy_ #[t, t'] o.type #[vd, vs]).run P w = .ok v' w') (h : K (a.put o.dst v') w') :
    if Region.wanted o (yielded ops a.tmps) = true then Oper.wp P o a w K Q else E := by
  rw [if_pos (by simp [Region.wanted, hgd])]
  unfold Oper.wp execOp
  simp only [ho, resolve, invoke, builtin, Sem.run_bind, Sem.run_pure, Result.andThen_ok, List.map_toArray, List.map_cons, List.map_nil, hd, hs, hr]
  exact h

/-- The block of a list is what it was, or it is new. -/
def OldNew (w : World) (v v' : Value) : Prop := v'.ownBlock = v.ownBlock ∨ ∀ g, v'.ownBlock = some g → w.heap.size ≤ g

theorem size42' : (Tryd.prog.info? 38).map (·.size) = some 3 := by kernel_rfl

/-- What a list has become. -/
def LPost (w : World) (v : Value) (L' : List Rn) (e : Ending) (w' : World) : Prop :=
  ∃ v', e = .returned v' ∧ Lst w' v' L' ∧ OldNew w v v' ∧ Ext v.ownBlock.toList w w'

/-- A run of the call's own. -/
def One (w : World) (vb : Nat) (x : Rn) : Prop := w.heap[vb]? = some (.cells #[.int .i64 x.s, .int .i64 x.n, .bool x.u] 38 (0, 0))
theorem One.cells {w : World} {vb : Nat} {x : Rn} (h : One w vb x) : ∀ j u, x.cells[j]? = some u → w.cell? ((⟨vb, 0, none⟩ : Addr).add j) = some u := fun j u hu => by
  rw [Addr.add_lit, cell_of_row _ _ _ _ _ _ h, Nat.zero_add, ← hu]; simp [Rn.cells]
theorem One.keep {S : List Nat} {w w' : World} {vb : Nat} {x : Rn} (h : One w vb x) (e : Ext S w w') (hs : vb ∉ S) : One w' vb x := e.keep h hs
theorem cells_one (x : Rn) : ∀ u ∈ x.cells, u.oneCell' = true := by simp [Rn.cells, Value.oneCell']
theorem cells_len (x : Rn) : x.cells.length = 3 := rfl

theorem zero_cells_len (n : Nat) : (Builtin.zeroCells (Value.agg #[.int .i64 0, .int .i64 0, .bool false]).cells n).size = n * 3 := by
  rw [size_zeroCells]; rfl

/-- append of one run. -/
theorem app_run (w : World) (v : Value) (L : List Rn) (hL : Lst w v L) (hlen : L.length ≤ 100000) (vb : Nat) (x : Rn) (hx : One w vb x) (ty : TypeId) (c1 : Nat) :
    ∃ v' w', (Builtin.append_ #[30, 30] ty #[v, .slice (some ⟨vb, 0, none⟩) 1 c1]).run Tryd.prog w = .ok v' w' ∧ Lst w' v' (L ++ [x]) ∧ OldNew w v v' ∧ Ext v.ownBlock.toList w w' := by
  obtain ⟨i, hi0, hz0, hz1, hz2⟩ := info_parts info38
  have fin : ∀ old, Lst (w.drew.alloc (.cells ((rcells L).toArray ++ x.cells.toArray ++ Builtin.zeroCells (Value.agg #[.int .i64 0, .int .i64 0, .bool false]).cells (grownCap w (L.length + 1) old 38 - (L.length + 1))) 38)) (.slice (some ⟨w.heap.size, 0, none⟩) (L.length + 1) (grownCap w (L.length + 1) old 38)) (L ++ [x]) := fun old => by
    have hge := grownCap_ge w (L.length + 1) old 38
    refine ⟨by simp [rcells_len], .inr ⟨w.heap.size, grownCap w (L.length + 1) old 38, _, by simp, Nat.zero_le _, heap_alloc_new w.drew _, by simpa using hge, grownCap_le_maxLen w _ old 38 (by unfold maxLen; omega), ?_, ?_⟩⟩
    · simp only [Array.size_append, List.size_toArray, zero_cells_len, rcells_len, cells_len]
      omega
    · simp only [Array.toList_append, rcells_append, rcells_one]
      rw [List.take_left' (by simp [rcells_len, cells_len]; omega)]
  rcases id hL.2 with ⟨rfl, hn⟩ | ⟨g, cap, cur, rfl, h1, h2, h3, h4, h5, h6⟩
  · obtain rfl : L = [] := List.length_eq_zero_iff.1 hn
    have hr := run_append_nil (P := Tryd.prog) w 30 ty 38 i _ Tryd.underlying30 hi0 hz0 ⟨vb, 0, none⟩ 1 c1 x.cells (by rw [hz1]; rfl) hx.cells (by omega) (by omega) (by rw [hz2]; omega)
    have hf := fin 0
    simp only [rcells_nil, List.length_nil, Nat.zero_add, Array.empty_append, List.nil_append] at hf
    refine ⟨_, _, hr, by simpa using hf, .inr (by simp [Value.ownBlock]), ?_⟩
    exact ((Ext.drew [] w).trans (Ext.alloc [] _ _)).mono (by simp)
  · by_cases hroom : L.length + 1 ≤ cap
    · have hr := run_append_room (P := Tryd.prog) w 30 ty 38 i Tryd.underlying30 hi0 g L.length cap cur h2 ⟨vb, 0, none⟩ 1 c1 x.cells (by rw [hz1]; rfl) hx.cells (cells_one x) hroom (by rw [hz1, h5, cells_len]; omega)
      rw [hz1] at hr
      refine ⟨_, _, hr, ⟨by simp [rcells_len], .inr ⟨g, cap, _, by simp, Nat.zero_le _, setRow_heap w g cur _ 38 _ h2, by simpa using hroom, h4, ?_, ?_⟩⟩, .inl rfl, Ext.setRow _ _ _ _ (by simp [Value.ownBlock])⟩
      · simp [cells_len, h5]; omega
      · rw [h6]
        simp only [rcells_append, rcells_one]
        rw [List.take_left' (by simp [rcells_len, cells_len]; omega)]
    · have hr := run_append_grow (P := Tryd.prog) w 30 ty 38 i _ Tryd.underlying30 hi0 hz0 ⟨g, 0, none⟩ L.length cap (rcells L) (by rw [hz1, rcells_len]) (fun j u hu => World.ownsRow.cells hL (g := g) rfl j u hu) ⟨vb, 0, none⟩ 1 c1 x.cells (by rw [hz1]; rfl) hx.cells (by omega) (by omega) (growslice_fits (by omega) (by rw [hz2]; omega))
      refine ⟨_, _, hr, fin cap, .inr (by simp [Value.ownBlock]), ?_⟩
      exact ((Ext.drew [] w).trans (Ext.alloc [] _ _)).mono (by simp)

/-! ### Insert -/

set_option maxRecDepth 100000 in
set_option maxHeartbeats 4000000 in
theorem insert_end (v : Value) (L : List Rn) (w : World) (hL : Lst w v L) (h0 : 0 < L.length) (hlen : L.length ≤ 100000) (vb : Nat) (x : Rn) (hx : One w vb x) :
    Calls Tryd.prog 87 #[v, .int .i64 L.length, .slice (some ⟨vb, 0, none⟩) 1 1] w (LPost w v (L ++ [x])) := by
  obtain ⟨v', w', hr, hL', hON, hE⟩ := app_run w v L hL hlen vb x hx 30 1
  obtain ⟨g, c, rfl, hnc, hcm, _, _⟩ := hL.at_ h0
  unfold maxLen at hcm
  have HF : Hid (LPost w (.slice (some ⟨g, 0, none⟩) L.length c) (L ++ [x]) (.returned v') w') := ⟨v', rfl, hL', hON, hE⟩
  clear hL hL' hON hE hx
  generalize L.length = n at *
  go_enter Tryd.func87, Tryd.ntmps87
  go_wp2_with (at_builtin; refine wpList_append_run rfl _ _ 30 rfl _ _ _ rfl rfl hr ?_)
  all_goals
    go_ret
    exact HF.out

theorem take_drop_cells (L : List Rn) (i : Nat) : rcells L = rcells (L.take i) ++ rcells (L.drop i) := by rw [← rcells_append, List.take_append_drop]
theorem rcells_take_len (L : List Rn) (i : Nat) (h : i ≤ L.length) : (rcells (L.take i)).length = i * 3 := by rw [rcells_len, List.length_take, Nat.min_eq_left h]
theorem rcells_drop_len (L : List Rn) (i : Nat) : (rcells (L.drop i)).length = (L.length - i) * 3 := by rw [rcells_len, List.length_drop]

theorem splice_left {α : Type} (A B : List α) (o : Nat) (cs : List α) (h : A.length = o) : splice (A ++ B) o cs = A ++ (cs ++ B.drop cs.length) := by
  unfold splice
  rw [List.take_left' h, ← h, ← List.drop_drop, List.drop_left]
theorem splice_len {α : Type} (C : List α) (o : Nat) (cs : List α) (h : o + cs.length ≤ C.length) : (splice C o cs).length = C.length := length_splice C o cs h

theorem sizeOf42 : ∀ w, (Go.sizeOf 38).run Tryd.prog w = .ok 3 w := fun w => by
  obtain ⟨i, hi0, _, hz1, _⟩ := info_parts info38
  simp [sizeOf, typeInfo, hi0, hz1]
theorem shape_row {w : World} {g : Nat} {cs : Array Value} {t : TypeId} (h : w.heap[g]? = some (.cells cs t (0, 0))) : w.shape? g = some (t, cs.size) := by
  simp [World.shape?, h]

theorem over_w (w : World) (vb g la ca lb cb off : Nat) (hne : vb ≠ g) (x : Rn) (hx : One w vb x) (cur : Array Value) (hg : w.heap[g]? = some (.cells cur 38 (0, 0))) (hk : cur.size ≠ 0) :
    (callFunc 88 #[.slice (some ⟨vb, 0, none⟩) la ca, .slice (some ⟨g, off, none⟩) lb cb]).run Tryd.prog w = .ok (.value (.bool false)) w := by
  rw [run_callFunc_extern Tryd.func88 (by kernel_rfl) (by kernel_rfl) (by kernel_rfl) (e := Extern.SlicesOverlaps.overlaps #[30, 30] #[4]) (by kernel_rfl),
    Lib.run_overlaps_apart w 30 4 38 Tryd.underlying30 3 sizeOf42 ⟨vb, 0, none⟩ ⟨g, off, none⟩ la ca lb cb hne 38 38 3 cur.size (shape_row hx) (shape_row hg) hk (frozen_of_row _ _ _ _ _ hx) (frozen_of_row _ _ _ _ _ hx)]
  rfl

set_option maxRecDepth 100000 in
set_option maxHeartbeats 4000000 in
theorem insert_shift (g c i : Nat) (L : List Rn) (w : World) (hL : Lst w (.slice (some ⟨g, 0, none⟩) L.length c) L) (hi : i < L.length) (hroom : L.length + 1 ≤ c) (hlen : L.length ≤ 100000) (vb : Nat) (x : Rn) (hx : One w vb x) (hne : vb ≠ g) :
    Calls Tryd.prog 87 #[.slice (some ⟨g, 0, none⟩) L.length c, .int .i64 i, .slice (some ⟨vb, 0, none⟩) 1 1] w (LPost w (.slice (some ⟨g, 0, none⟩) L.length c) (L.take i ++ [x] ++ L.drop i)) := by
  have hcm0 : c ≤ maxLen := by
    obtain ⟨g', c', hv, _, hcm, _⟩ := hL.at_ (by omega)
    simp only [Value.slice.injEq, true_and] at hv
    obtain ⟨_, rfl⟩ := hv
    exact hcm
  have hcm := hcm0
  unfold maxLen at hcm0
  rcases hL.2 with ⟨h0, _⟩ | ⟨g', c', cur, hv, _, hg, _, _, hcs, hck⟩
  · cases h0
  simp only [Value.slice.injEq, Option.some.injEq, Addr.mk.injEq, and_true, true_and] at hv
  obtain ⟨rfl, rfl⟩ := hv
  have hov : ∀ la ca lb cb off, (callFunc 88 #[.slice (some ⟨vb, 0, none⟩) la ca, .slice (some ⟨g, off, none⟩) lb cb]).run Tryd.prog w = .ok (.value (.bool false)) w := fun la ca lb cb off => over_w w vb g la ca lb cb off hne x hx cur hg (by omega)
  -- the row's cells, in parts
  have hC : cur.toList = rcells (L.take i) ++ (rcells (L.drop i) ++ cur.toList.drop (L.length * 3)) := by
    rw [← List.append_assoc, ← take_drop_cells, ← hck, List.take_append_drop]
  have hPl := rcells_take_len L i (by omega)
  have hQl := rcells_drop_len L i
  obtain ⟨P, hP⟩ : ∃ P, P = rcells (L.take i) := ⟨_, rfl⟩
  obtain ⟨Q, hQ⟩ : ∃ Q, Q = rcells (L.drop i) := ⟨_, rfl⟩
  obtain ⟨R, hR⟩ : ∃ R, R = cur.toList.drop (L.length * 3) := ⟨_, rfl⟩
  have hRl : R.length = (c - L.length) * 3 := by rw [hR, List.length_drop, Array.length_toList, hcs]; omega
  rw [← hP] at hPl
  rw [← hQ] at hQl
  rw [← hP, ← hQ, ← hR] at hC
  have hg0 : w.heap[g]? = some (.cells (P ++ (Q ++ R)).toArray 38 (0, 0)) := by rw [hg, ← hC]
  have hq1 : ∀ u ∈ Q, u.oneCell' = true := by rw [hQ]; exact rcells_one' _
  have hcp1 : ∀ ty o dl dc so sl sc, o = (i + 1) * 3 → dl = L.length - i → so = i * 3 → sl = L.length + 1 - i → (Builtin.copy_ #[30, 30] ty #[.slice (some ⟨g, o, none⟩) dl dc, .slice (some ⟨g, so, none⟩) sl sc]).run Tryd.prog w.drew = .ok (goInt ((L.length - i : Nat) : Nat)) (w.drew.setRow g (splice (P ++ (Q ++ R)) ((i + 1) * 3) Q).toArray) := by
    intro ty o dl dc so sl sc ho hdl hso hsl
    subst ho
    exact run_copy_k w.drew 30 30 ty 38 3 g ((i + 1) * 3) dl dc ⟨g, so, none⟩ sl sc (L.length - i) (P ++ (Q ++ R)) 38 Q Tryd.underlying30 size42' hg0 (by rw [hdl, hsl]; simp only [Nat.min_def]; split <;> omega) hQl (fun j u hu => by
      have hj := (List.getElem?_eq_some_iff.1 hu).1
      rw [Addr.add_lit, cell_of_row (w := w.drew) g _ _ _ _ hg0, hso]
      simp only [List.getElem?_toArray]
      rw [List.getElem?_append_right (by omega), List.getElem?_append_left (by omega), show i * 3 + j - P.length = j by omega, hu]) (by simp only [List.length_append]; omega) hq1
  have hX1 : splice (P ++ (Q ++ R)) ((i + 1) * 3) Q = P ++ ((splice (Q ++ R) 3 Q)) := by
    unfold splice
    rw [List.take_append, List.drop_append, List.take_of_length_le (by omega), List.drop_eq_nil_of_le (by omega), show (i + 1) * 3 - P.length = 3 by omega, show (i + 1) * 3 + Q.length - P.length = 3 + Q.length by omega]
    simp
  have hX1l : (splice (Q ++ R) 3 Q).length = Q.length + R.length := by rw [splice_len]; simp; simp; omega
  have hX1d : (splice (Q ++ R) 3 Q).drop 3 = Q ++ (Q ++ R).drop (3 + Q.length) := by
    unfold splice
    rw [List.drop_left' (by simp; omega)]
  rw [hX1] at hcp1
  obtain ⟨S, hS⟩ : ∃ S, S = splice (Q ++ R) 3 Q := ⟨_, rfl⟩
  rw [← hS] at hcp1 hX1l hX1d
  have hgS : (w.drew.setRow g (P ++ S).toArray).heap[g]? = some (.cells (P ++ S).toArray 38 (0, 0)) := setRow_heap _ _ _ _ _ _ hg0
  have hxS : One (w.drew.setRow g (P ++ S).toArray) vb x := (setRow_other w.drew g vb _ hne).trans hx
  have hcp2 : ∀ ty o dl dc sc, o = i * 3 → dl = L.length + 1 - i → (Builtin.copy_ #[30, 30] ty #[.slice (some ⟨g, o, none⟩) dl dc, .slice (some ⟨vb, 0, none⟩) 1 sc]).run Tryd.prog (w.drew.setRow g (P ++ S).toArray) = .ok (goInt ((1 : Nat) : Nat)) ((w.drew.setRow g (P ++ S).toArray).setRow g (splice (P ++ S) (i * 3) x.cells).toArray) := by
    intro ty o dl dc sc ho hdl
    subst ho
    exact run_copy_k _ 30 30 ty 38 3 g (i * 3) dl dc ⟨vb, 0, none⟩ 1 sc 1 (P ++ S) 38 x.cells Tryd.underlying30 size42' hgS (by rw [hdl]; simp only [Nat.min_def]; split <;> omega) rfl hxS.cells (by simp only [List.length_append, cells_len]; omega) (cells_one x)
  have hX2 : splice (P ++ S) (i * 3) x.cells = P ++ (x.cells ++ (Q ++ (Q ++ R).drop (3 + Q.length))) := by
    rw [splice_left P S _ _ hPl, cells_len, hX1d]
  rw [hX2, setRow_setRow] at hcp2
  have HF : Hid (LPost w (.slice (some ⟨g, 0, none⟩) L.length c) (L.take i ++ [x] ++ L.drop i) (.returned (.slice (some ⟨g, 0, none⟩) (L.length + 1) c)) (w.drew.setRow g (P ++ (x.cells ++ (Q ++ (Q ++ R).drop (3 + Q.length)))).toArray)) := by
    refine ⟨_, rfl, ⟨?_, .inr ⟨g, c, _, ?_, Nat.zero_le _, setRow_heap _ _ _ _ _ _ hg0, ?_, hcm, ?_, ?_⟩⟩, .inl rfl, ?_⟩
    · rw [rcells_len]
    · congr 1; simp; omega
    · simp; omega
    · simp [cells_len]; omega
    · rw [show (L.take i ++ [x] ++ L.drop i).length = L.length + 1 by simp; omega]
      simp only [rcells_append, rcells_one, ← hP, ← hQ]
      rw [show P ++ (x.cells ++ (Q ++ (Q ++ R).drop (3 + Q.length))) = (P ++ x.cells ++ Q) ++ (Q ++ R).drop (3 + Q.length) by simp, List.take_left' (by simp [cells_len]; omega)]
    · exact (Ext.drew _ w).trans (Ext.setRow _ _ _ _ (by simp [Value.ownBlock]))
  clear hx hL hg hC hP hQ hR hg0 hX1 hX1l hX1d hS hgS hxS hX2 hcs hck hq1 hPl hQl hRl
  generalize (P ++ (x.cells ++ (Q ++ (Q ++ R).drop (3 + Q.length)))).toArray = Z2 at *
  generalize (P ++ S).toArray = Z1 at *
  generalize hn : L.length = n at *
  clear hn
  have hw1 : IntKind.i64.wrap ((i : Int) + 1) = (i : Int) + 1 := by rw [IntKind.wrap_i64]; omega
  have hb1 : (0 : Int) ≤ (i : Int) + 1 := by omega
  have hb3 : (i : Int) ≤ (n : Int) := by omega
  have hb5 : (i : Int) ≤ (n : Int) + 1 := by omega
  have htn : ((i : Int) + 1).toNat = i + 1 := by omega
  have hb2 : ¬ (c = i + 1) := by omega
  have hb4 : ¬ (c = i) := by omega
  go_enter Tryd.func87, Tryd.ntmps87
  go_wp2_with (simp only [hov])
  go_region_law (refine step_copy_run rfl _ _ 30 30 rfl (.slice (some ⟨g, (i + 1) * 3, none⟩) (n - i) (c - (i + 1))) (.slice (some ⟨g, i * 3, none⟩) (n + 1 - i) (c - i)) _ (by simp [Act.eval, Act.put]) (by simp [Act.eval, Act.put]) (hcp1 _ _ _ _ _ _ _ rfl rfl rfl rfl) ?_)
  go_wp2_with (at_builtin; refine wpList_copy_run rfl _ _ 30 30 rfl (.slice (some ⟨g, i * 3, none⟩) (n + 1 - i) (c - i)) (.slice (some ⟨vb, 0, none⟩) 1 1) _ (by simp [Act.eval, Act.put]) (by simp [Act.eval, Act.put]) (hcp2 _ _ _ _ _ rfl rfl) ?_)
  go_ret
  exact HF.out

set_option maxRecDepth 100000 in
set_option maxHeartbeats 4000000 in
theorem insert_grow (g c i : Nat) (L : List Rn) (w : World) (hL : Lst w (.slice (some ⟨g, 0, none⟩) L.length c) L) (hi : i < L.length) (hroom : ¬ L.length + 1 ≤ c) (hlen : L.length ≤ 100000) (vb : Nat) (x : Rn) (hx : One w vb x) :
    Calls Tryd.prog 87 #[.slice (some ⟨g, 0, none⟩) L.length c, .int .i64 i, .slice (some ⟨vb, 0, none⟩) 1 1] w (LPost w (.slice (some ⟨g, 0, none⟩) L.length c) (L.take i ++ [x] ++ L.drop i)) := by
  obtain ⟨i0, hi0, hz0, hz1, hz2⟩ := info_parts info38
  have hnc : L.length ≤ c := by
    obtain ⟨a', c', hv, hcm⟩ := hL.slice
    simp only [Value.slice.injEq] at hv
    omega
  have hPl := rcells_take_len L i (by omega)
  have hQl := rcells_drop_len L i
  have hcell : ∀ j u, (rcells L)[j]? = some u → w.cell? ((⟨g, 0, none⟩ : Addr).add j) = some u := fun j u hu => World.ownsRow.cells hL (g := g) rfl j u hu
  have hPQ := take_drop_cells L i
  obtain ⟨P, hP⟩ : ∃ P, P = rcells (L.take i) := ⟨_, rfl⟩
  obtain ⟨Q, hQ⟩ : ∃ Q, Q = rcells (L.drop i) := ⟨_, rfl⟩
  rw [← hP] at hPl
  rw [← hQ] at hQl
  rw [← hP, ← hQ] at hPQ
  have hq1 : ∀ u ∈ Q, u.oneCell' = true := by rw [hQ]; exact rcells_one' _
  have hgw : g < w.heap.size := (own_lt hL g rfl).2
  have hvw : vb < w.heap.size := lt_of_heap hx
  have hold : (Builtin.firstCells i0.size i (.slice (some ⟨g, 0, none⟩) i c)).run Tryd.prog w.drew = .ok P.toArray w.drew := by
    rw [hz1]
    exact run_firstCells_some w.drew 3 i ⟨g, 0, none⟩ i c P hPl (fun j u hu => hcell j u (by rw [hPQ, List.getElem?_append_left (List.getElem?_eq_some_iff.1 hu).1, hu]))
  have hk1 : i + (L.length + 1 - i) = L.length + 1 := by omega
  have hkk : ((L.length + 1 - i : Nat) : Int) = (L.length : Int) + 1 - (i : Int) := by omega
  have hrz := fun ty => Lib.run_append_grow_zeros (P := Tryd.prog) w 30 3 ty 38 i0 _ .i64 .i64 Tryd.underlying30 Tryd.underlying3 hi0 hz0 (some ⟨g, 0, none⟩) i c P hold (L.length + 1 - i) (by omega) (by omega) (by omega) (by omega) (by rw [hz2]; omega) (by rw [hz2]; exact growslice_fits (by omega) (by omega))
  rw [hk1, hkk] at hrz
  obtain ⟨G, hG⟩ : ∃ G, G = grownCap w (L.length + 1) c 38 := ⟨_, rfl⟩
  have hGge : L.length + 1 ≤ G := by rw [hG]; exact grownCap_ge w _ c 38
  have hGm : G ≤ maxLen := by rw [hG]; exact grownCap_le_maxLen w _ c 38 (by unfold maxLen; omega)
  rw [← hG] at hrz
  obtain ⟨Zr, hZr⟩ : ∃ Zr : List Value, Zr = (Builtin.zeroCells (Value.agg #[.int .i64 0, .int .i64 0, .bool false]).cells (L.length + 1 - i)).toList ++ (Builtin.zeroCells (Value.agg #[.int .i64 0, .int .i64 0, .bool false]).cells (G - (L.length + 1))).toList := ⟨_, rfl⟩
  have hZl : Zr.length = (G - i) * 3 := by
    have h1 := zero_cells_len (L.length + 1 - i)
    have h2 := zero_cells_len (G - (L.length + 1))
    rw [← Array.length_toList] at h1 h2
    rw [hZr, List.length_append, h1, h2]; omega
  have hrow : P.toArray ++ Builtin.zeroCells (Value.agg #[.int .i64 0, .int .i64 0, .bool false]).cells (L.length + 1 - i) ++ Builtin.zeroCells (Value.agg #[.int .i64 0, .int .i64 0, .bool false]).cells (G - (L.length + 1)) = (P ++ Zr).toArray := by
    apply Array.toList_inj.1
    rw [hZr]; simp
  rw [hrow] at hrz
  have hE1 : Ext [] w (w.drew.alloc (.cells (P ++ Zr).toArray 38)) := (Ext.drew [] w).trans (Ext.alloc [] _ _)
  have hg1 : (w.drew.alloc (.cells (P ++ Zr).toArray 38)).heap[w.heap.size]? = some (.cells (P ++ Zr).toArray 38 (0, 0)) := heap_alloc_new w.drew _
  have hx1 := hx.keep hE1 (by simp)
  obtain ⟨W1, hW1⟩ : ∃ W1, W1 = w.drew.alloc (.cells (P ++ Zr).toArray 38) := ⟨_, rfl⟩
  rw [← hW1] at hrz hE1 hg1 hx1
  have hcp2 : ∀ ty o dl dc sc, o = i * 3 → dl = L.length + 1 - i → (Builtin.copy_ #[30, 30] ty #[.slice (some ⟨w.heap.size, o, none⟩) dl dc, .slice (some ⟨vb, 0, none⟩) 1 sc]).run Tryd.prog W1 = .ok (goInt ((1 : Nat) : Nat)) (W1.setRow w.heap.size (splice (P ++ Zr) (i * 3) x.cells).toArray) := by
    intro ty o dl dc sc ho hdl
    subst ho
    exact run_copy_k _ 30 30 ty 38 3 w.heap.size (i * 3) dl dc ⟨vb, 0, none⟩ 1 sc 1 (P ++ Zr) 38 x.cells Tryd.underlying30 size42' hg1 (by rw [hdl]; simp only [Nat.min_def]; split <;> omega) rfl hx1.cells (by simp only [List.length_append, cells_len]; omega) (cells_one x)
  rw [splice_left P Zr _ _ hPl, cells_len] at hcp2
  have hE2 : Ext [w.heap.size] W1 (W1.setRow w.heap.size (P ++ (x.cells ++ Zr.drop 3)).toArray) := Ext.setRow _ _ _ _ (by simp)
  have hg2 : (W1.setRow w.heap.size (P ++ (x.cells ++ Zr.drop 3)).toArray).heap[w.heap.size]? = some (.cells (P ++ (x.cells ++ Zr.drop 3)).toArray 38 (0, 0)) := setRow_heap _ _ _ _ _ _ hg1
  have hL2 : Lst (W1.setRow w.heap.size (P ++ (x.cells ++ Zr.drop 3)).toArray) (.slice (some ⟨g, 0, none⟩) L.length c) L := (hL.keep0 hE1).keep hE2 (by simp [Value.ownBlock]; omega)
  obtain ⟨W2, hW2⟩ : ∃ W2, W2 = W1.setRow w.heap.size (P ++ (x.cells ++ Zr.drop 3)).toArray := ⟨_, rfl⟩
  rw [← hW2] at hcp2 hE2 hg2 hL2
  have hcp3 : ∀ ty o dl dc so sl sc, o = (i + 1) * 3 → dl = L.length - i → so = i * 3 → sl = L.length - i → (Builtin.copy_ #[30, 30] ty #[.slice (some ⟨w.heap.size, o, none⟩) dl dc, .slice (some ⟨g, so, none⟩) sl sc]).run Tryd.prog W2.drew = .ok (goInt ((L.length - i : Nat) : Nat)) (W2.drew.setRow w.heap.size (splice (P ++ (x.cells ++ Zr.drop 3)) ((i + 1) * 3) Q).toArray) := by
    intro ty o dl dc so sl sc ho hdl hso hsl
    subst ho
    refine run_copy_k W2.drew 30 30 ty 38 3 w.heap.size ((i + 1) * 3) dl dc ⟨g, so, none⟩ sl sc (L.length - i) (P ++ (x.cells ++ Zr.drop 3)) 38 Q Tryd.underlying30 size42' hg2 (by rw [hdl, hsl]; simp only [Nat.min_def]; split <;> omega) hQl (fun j u hu => ?_) (by simp only [List.length_append, cells_len, List.length_drop]; omega) hq1
    have h := World.ownsRow.cells hL2 (g := g) rfl (i * 3 + j) u (by rw [hPQ, List.getElem?_append_right (by omega), show i * 3 + j - P.length = j by omega, hu])
    rw [Addr.add_lit] at h ⊢
    rw [hso]
    simpa using h
  rw [show P ++ (x.cells ++ Zr.drop 3) = (P ++ x.cells) ++ Zr.drop 3 by simp, splice_left (P ++ x.cells) (Zr.drop 3) _ _ (by simp [cells_len]; omega)] at hcp3
  have HF : Hid (LPost w (.slice (some ⟨g, 0, none⟩) L.length c) (L.take i ++ [x] ++ L.drop i) (.returned (.slice (some ⟨w.heap.size, 0, none⟩) (L.length + 1) G)) (W2.drew.setRow w.heap.size (P ++ x.cells ++ (Q ++ (Zr.drop 3).drop Q.length)).toArray)) := by
    refine ⟨_, rfl, ⟨?_, .inr ⟨w.heap.size, G, _, ?_, Nat.zero_le _, setRow_heap _ _ _ _ _ _ hg2, ?_, hGm, ?_, ?_⟩⟩, .inr (by simp [Value.ownBlock]), ?_⟩
    · rw [rcells_len]
    · congr 1; simp; omega
    · simp; omega
    · simp [cells_len]; omega
    · rw [show (L.take i ++ [x] ++ L.drop i).length = L.length + 1 by simp; omega]
      simp only [rcells_append, rcells_one, ← hP, ← hQ]
      rw [show P ++ x.cells ++ (Q ++ (Zr.drop 3).drop Q.length) = (P ++ x.cells ++ Q) ++ (Zr.drop 3).drop Q.length by simp, List.take_left' (by simp [cells_len]; omega)]
    · refine Ext.mono (S := []) ?_ (by simp)
      exact ((hE1.on hE2 (by simp)).trans (Ext.drew [] _)).on (Ext.setRow [w.heap.size] _ _ _ (by simp)) (by simp)
  clear hx hL hPQ hP hQ hg1 hg2 hL2 hx1 hE1 hE2 hW1 hW2 hZr hZl hrow hG hold hcell hq1 hPl hQl hi0 hz0 hz1 hz2 hk1 hkk hgw hvw
  generalize (P ++ x.cells ++ (Q ++ (Zr.drop 3).drop Q.length)).toArray = Z3 at *
  generalize hn : L.length = n at *
  clear hn
  have hw1 : IntKind.i64.wrap ((i : Int) + 1) = (i : Int) + 1 := by rw [IntKind.wrap_i64]; omega
  have hb1 : (0 : Int) ≤ (i : Int) + 1 := by omega
  have hb3 : (i : Int) ≤ (n : Int) := by omega
  have hb5 : (i : Int) ≤ (n : Int) + 1 := by omega
  have htn : ((i : Int) + 1).toNat = i + 1 := by omega
  have hb2 : ¬ (G = i + 1) := by omega
  have hb4 : ¬ (c = i) := by omega
  have hb6 : ¬ (G = i) := by omega
  unfold maxLen at hGm
  go_enter Tryd.func87, Tryd.ntmps87
  go_wp2_with (at_builtin; first
    | refine wpList_append_run2 rfl _ _ 30 3 rfl _ _ _ rfl rfl (hrz _) ?_
    | refine wpList_copy_run rfl _ _ 30 30 rfl (.slice (some ⟨w.heap.size, i * 3, none⟩) (n + 1 - i) (G - i)) (.slice (some ⟨vb, 0, none⟩) 1 1) _ (by simp [Act.eval, Act.put]) (by simp [Act.eval, Act.put]) (hcp2 _ _ _ _ _ rfl rfl) ?_)
  go_region_law (refine step_copy_run rfl _ _ 30 30 rfl (.slice (some ⟨w.heap.size, (i + 1) * 3, none⟩) (n - i) (G - (i + 1))) (.slice (some ⟨g, i * 3, none⟩) (n - i) (c - i)) _ (by simp [Act.eval, Act.put]) (by simp [Act.eval, Act.put]) (hcp3 _ _ _ _ _ _ _ rfl rfl rfl rfl) ?_)
  go_wp2_with fail
  go_ret
  exact HF.out

/-- slices.Insert of one run. -/
theorem insert_any (v : Value) (i : Nat) (L : List Rn) (w : World) (hL : Lst w v L) (h0 : 0 < L.length) (hi : i ≤ L.length) (hlen : L.length ≤ 100000) (vb : Nat) (x : Rn) (hx : One w vb x) (hne : v.ownBlock ≠ some vb) :
    Calls Tryd.prog 87 #[v, .int .i64 i, .slice (some ⟨vb, 0, none⟩) 1 1] w (LPost w v (L.take i ++ [x] ++ L.drop i)) := by
  by_cases he : i = L.length
  · subst he
    rw [List.take_length, List.drop_length, List.append_nil]
    exact insert_end v L w hL h0 hlen vb x hx
  · obtain ⟨g, c, rfl, _⟩ := hL.at_ h0
    have hne2 : vb ≠ g := by rintro rfl; exact hne rfl
    by_cases hroom : L.length + 1 ≤ c
    · exact insert_shift g c i L w hL (by omega) hroom hlen vb x hx hne2
    · exact insert_grow g c i L w hL (by omega) hroom hlen vb x hx

end Go.Proofs.YtlajjcboahflbaaDoor
