/-
  slices.Replace at lists of runs, some runs by one; no statement is proved here.
-/
import Derived.Test.YtlajjcboahflbaaDoorIns
namespace Go.Proofs.YtlajjcboahflbaaDoor
open Go.RowKit

/-- m zero runs. -/
def zruns (m : Nat) : List Value := (Builtin.zeroCells (Value.agg #[.int .i64 0, .int .i64 0, .bool false]).cells m).toList
theorem zruns_len (m : Nat) : (zruns m).length = m * 3 := by
  have h1 := zero_cells_len m
  rw [← Array.length_toList] at h1
  exact h1
theorem zruns_one (m : Nat) : ∀ u ∈ zruns m, u.oneCell' = true := by
  intro u hu
  simp only [zruns, Builtin.zeroCells, Value.cells, Array.toList_map, List.mem_map] at hu
  obtain ⟨k, _, rfl⟩ := hu
  have : k % 3 < 3 := Nat.mod_lt _ (by omega)
  have h3 : k % 3 = 0 ∨ k % 3 = 1 ∨ k % 3 = 2 := by omega
  show Value.oneCell' ((#[Value.int .i64 0, .int .i64 0, .bool false] : Array Value)[k % 3]!) = true
  rcases h3 with h | h | h <;> rw [h] <;> rfl

theorem run_clear_r (w : World) (ty : TypeId) (g o m c : Nat) (cur : List Value) (hg : w.heap[g]? = some (.cells cur.toArray 38 (0, 0))) (h0 : 0 < m) (hfit : o + m * 3 ≤ cur.length) :
    (Builtin.clear_ #[30] ty #[.slice (some ⟨g, o, none⟩) m c]).run Tryd.prog w = .ok (.tuple #[]) (w.setRow g (splice cur o (zruns m)).toArray) := by
  obtain ⟨i, hi, hz0, hz1, hz2⟩ := info_parts info38
  have hst := run_storeCells_at Tryd.prog g o 38 (zruns m) 0 cur.toArray w hg (by simp [zruns_len]; exact hfit) (zruns_one m)
  simp only [Nat.add_zero] at hst
  obtain ⟨k, rfl⟩ : ∃ k, m = k + 1 := ⟨m - 1, by omega⟩
  rw [show zruns (k + 1) = (Builtin.zeroCells (Value.agg #[.int .i64 0, .int .i64 0, .bool false]).cells (k + 1)).toList from rfl] at hst ⊢
  simp [Builtin.clear_, run_underlying Tryd.underlying30, zeroValue, typeInfo, hi, hz0, hst, splice]

theorem wpList_clear_run {P : Program} {w w' : World} {ops : Array Oper} {rest : List Oper} {o : Oper} {a : Act} {Q : Exit → Act → World → Prop} (hgd : o.guard = none) (d : Operand) (t : TypeId)
    (ho : o.op = .call { callee := .builtin .clear, args := #[d], argTypes := #[t] }) (vd v' : Value) (hd : a.eval d = vd)
    (hr : (Builtin.clear_ #[t] o.type #[vd]).run P w = .ok v' w') (h : wpList P ops Q rest (a.put o.dst v') w') : wpList P ops Q (o :: rest) a w := by
  refine wpList_plain hgd fun K hK => ?_
  unfold Oper.wp execOp
  simp only [ho, resolve, invoke, builtin, Sem.run_bind, Sem.run_pure, Result.andThen_ok, List.map_toArray, List.map_cons, List.map_nil, hd, hr]
  exact hK _ _ h

/-- A row that opens with the cells of a list holds the list. -/
theorem lst_open {w : World} {g c : Nat} (L : List Rn) (n : Nat) (hn : L.length = n) (T : List Value) (h : w.heap[g]? = some (.cells (rcells L ++ T).toArray 38 (0, 0))) (hc : n ≤ c) (hm : c ≤ maxLen) (hl : (rcells L ++ T).length = c * 3) : Lst w (.slice (some ⟨g, 0, none⟩) n c) L := by
  subst hn
  exact ⟨rcells_len L, .inr ⟨g, c, _, rfl, Nat.zero_le _, h, hc, hm, by simpa using hl, by simp only []; rw [List.take_left' (rcells_len L)]⟩⟩

set_option maxRecDepth 100000 in
set_option maxHeartbeats 4000000 in
theorem replace_end (g c i : Nat) (L : List Rn) (w : World) (hL : Lst w (.slice (some ⟨g, 0, none⟩) L.length c) L) (hi : i < L.length) (hlen : L.length ≤ 100000) (vb : Nat) (x : Rn) (hx : One w vb x) :
    Calls Tryd.prog 85 #[.slice (some ⟨g, 0, none⟩) L.length c, .int .i64 i, .int .i64 L.length, .slice (some ⟨vb, 0, none⟩) 1 1] w (LPost w (.slice (some ⟨g, 0, none⟩) L.length c) (L.take i ++ [x])) := by
  rcases hL.2 with ⟨h0, _⟩ | ⟨g', c', cur, hv, _, hg, hnc, hcm, hcs, hck⟩
  · cases h0
  simp only [Value.slice.injEq, Option.some.injEq, Addr.mk.injEq, and_true, true_and] at hv
  obtain ⟨rfl, rfl⟩ := hv
  obtain ⟨i0, hi0, hz0, hz1, hz2⟩ := info_parts info38
  have hC : cur.toList = rcells (L.take i) ++ cur.toList.drop (i * 3) := by
    rw [← List.take_append_drop (i * 3) cur.toList]
    congr 1
    · have : (cur.toList.take (L.length * 3)).take (i * 3) = rcells (L.take i) := by
        rw [hck, take_drop_cells L i, List.take_left' (rcells_take_len L i (by omega))]
      rw [← this, List.take_take, Nat.min_eq_left (by omega)]
    · rw [List.take_append_drop]
  have hPl := rcells_take_len L i (by omega)
  obtain ⟨R, hR⟩ : ∃ R, R = cur.toList.drop (i * 3) := ⟨_, rfl⟩
  have hRl : R.length = (c - i) * 3 := by rw [hR, List.length_drop, Array.length_toList, hcs]; omega
  rw [← hR] at hC
  have hr := fun ty => run_append_room (P := Tryd.prog) w 30 ty 38 i0 Tryd.underlying30 hi0 g i c cur hg ⟨vb, 0, none⟩ 1 1 x.cells (by rw [hz1]; rfl) hx.cells (cells_one x) (by omega) (by rw [hz1, hcs, cells_len]; omega)
  rw [hz1, hC, List.take_left' hPl, cells_len, ← List.drop_drop, List.drop_left' hPl] at hr
  have hg1 : (w.setRow g (rcells (L.take i) ++ x.cells ++ R.drop 3).toArray).heap[g]? = some (.cells (rcells (L.take i) ++ x.cells ++ R.drop 3).toArray 38 (0, 0)) := setRow_heap _ _ _ _ _ _ hg
  have hE1 : Ext [g] w (w.setRow g (rcells (L.take i) ++ x.cells ++ R.drop 3).toArray) := Ext.setRow _ _ _ _ (by simp)
  have hl' : (L.take i ++ [x]).length = i + 1 := by simp; omega
  have e1 : rcells (L.take i) ++ x.cells ++ R.drop 3 = rcells (L.take i ++ [x]) ++ R.drop 3 := by rw [rcells_append, rcells_one]
  rw [e1] at hr hg1 hE1
  have hAl : (rcells (L.take i ++ [x])).length = (i + 1) * 3 := by rw [rcells_len, hl']
  obtain ⟨W1, hW1⟩ : ∃ W1, W1 = w.setRow g (rcells (L.take i ++ [x]) ++ R.drop 3).toArray := ⟨_, rfl⟩
  rw [← hW1] at hr hg1 hE1
  clear hW1
  by_cases hend : i + 1 = L.length
  · have HF : Hid (LPost w (.slice (some ⟨g, 0, none⟩) L.length c) (L.take i ++ [x]) (.returned (.slice (some ⟨g, 0, none⟩) (i + 1) c)) W1) :=
      ⟨_, rfl, lst_open _ _ hl' _ hg1 (by omega) hcm (by rw [List.length_append, hAl, List.length_drop]; omega), .inl rfl, hE1⟩
    clear hx hL hg hcs hck hC hPl hRl hR hg1 hE1 hl' e1 hAl hi0 hz0 hz1 hz2
    generalize hn : L.length = n at *
    clear hn
    unfold maxLen at hcm
    subst hend
    go_enter Tryd.func85, Tryd.ntmps85
    go_wp2_with (at_builtin; refine wpList_append_run rfl _ _ 30 rfl _ _ _ rfl rfl (hr _) ?_)
    all_goals go_ret
    all_goals exact HF.out
  · have hcl := fun ty c' => run_clear_r W1 ty g ((i + 1) * 3) (L.length - (i + 1)) c' _ hg1 (by omega) (by rw [List.length_append, hAl, List.length_drop]; omega)
    rw [splice_left _ _ _ _ hAl] at hcl
    have hg2 := setRow_heap W1 g _ (rcells (L.take i ++ [x]) ++ (zruns (L.length - (i + 1)) ++ (R.drop 3).drop (zruns (L.length - (i + 1))).length)).toArray 38 _ hg1
    have HF : Hid (LPost w (.slice (some ⟨g, 0, none⟩) L.length c) (L.take i ++ [x]) (.returned (.slice (some ⟨g, 0, none⟩) (i + 1) c)) (W1.setRow g (rcells (L.take i ++ [x]) ++ (zruns (L.length - (i + 1)) ++ (R.drop 3).drop (zruns (L.length - (i + 1))).length)).toArray)) :=
      ⟨_, rfl, lst_open _ _ hl' _ hg2 (by omega) hcm (by simp only [List.length_append, hAl, List.length_drop, zruns_len]; omega), .inl rfl, hE1.trans (Ext.setRow _ _ _ _ (by simp))⟩
    generalize (rcells (L.take i ++ [x]) ++ (zruns (L.length - (i + 1)) ++ (R.drop 3).drop (zruns (L.length - (i + 1))).length)).toArray = Z2 at *
    clear hx hL hg hcs hck hC hPl hRl hR hg1 hg2 hE1 hl' e1 hAl hi0 hz0 hz1 hz2
    generalize hn : L.length = n at *
    clear hn
    unfold maxLen at hcm
    have hb1 : ¬ (c = i + 1) := by omega
    have hb2 : ¬ (c = i) := by omega
    have hb3 : (i : Int) + 1 ≤ n := by omega
    have hb4 : (i : Int) + 1 < n := by omega
    have htn : ((i : Int) + 1).toNat = i + 1 := by omega
    go_enter Tryd.func85, Tryd.ntmps85
    go_wp2_with (first
      | (at_builtin; refine wpList_append_run rfl _ _ 30 rfl _ _ _ rfl rfl (hr _) ?_)
      | (at_builtin; refine wpList_clear_run rfl _ 30 rfl _ _ rfl (hcl _ _) ?_))
    go_ret
    exact HF.out

theorem lst_open2 {w : World} {g c : Nat} (L : List Rn) (n : Nat) (hn : L.length = n) (A T : List Value) (hA : A = rcells L) (h : w.heap[g]? = some (.cells (A ++ T).toArray 38 (0, 0))) (hc : n ≤ c) (hm : c ≤ maxLen) (hl : (A ++ T).length = c * 3) : Lst w (.slice (some ⟨g, 0, none⟩) n c) L := by
  subst hA
  exact lst_open L n hn T h hc hm hl

set_option maxRecDepth 100000 in
set_option maxHeartbeats 4000000 in
theorem replace_mid (g c i j : Nat) (L : List Rn) (w : World) (hL : Lst w (.slice (some ⟨g, 0, none⟩) L.length c) L) (hi : i < j) (hj : j < L.length) (hlen : L.length ≤ 100000) (vb : Nat) (x : Rn) (hx : One w vb x) :
    Calls Tryd.prog 85 #[.slice (some ⟨g, 0, none⟩) L.length c, .int .i64 i, .int .i64 j, .slice (some ⟨vb, 0, none⟩) 1 1] w (LPost w (.slice (some ⟨g, 0, none⟩) L.length c) (L.take i ++ [x] ++ L.drop j)) := by
  rcases hL.2 with ⟨h0, _⟩ | ⟨g', c', cur, hv, _, hg, hnc, hcm, hcs, hck⟩
  · cases h0
  simp only [Value.slice.injEq, Option.some.injEq, Addr.mk.injEq, and_true, true_and] at hv
  obtain ⟨rfl, rfl⟩ := hv
  have hC : cur.toList = rcells (L.take i) ++ (rcells ((L.take j).drop i) ++ (rcells (L.drop j) ++ cur.toList.drop (L.length * 3))) := by
    rw [← List.append_assoc, ← List.append_assoc, ← rcells_append, ← rcells_append]
    have : L.take i ++ (L.take j).drop i ++ L.drop j = L := by
      rw [show L.take i = (L.take j).take i by rw [List.take_take, Nat.min_eq_left (by omega)], List.take_append_drop, List.take_append_drop]
    rw [this, ← hck, List.take_append_drop]
  have hPl := rcells_take_len L i (by omega)
  have hMl : (rcells ((L.take j).drop i)).length = (j - i) * 3 := by rw [rcells_len]; simp; omega
  have hQl := rcells_drop_len L j
  have hl' : (L.take i ++ [x] ++ L.drop j).length = i + 1 + (L.length - j) := by simp; omega
  have hAl : (rcells (L.take i ++ [x] ++ L.drop j)).length = (i + 1 + (L.length - j)) * 3 := by rw [rcells_len, hl']
  have eA : rcells (L.take i ++ [x] ++ L.drop j) = rcells (L.take i) ++ (x.cells ++ rcells (L.drop j)) := by rw [rcells_append, rcells_append, rcells_one, List.append_assoc]
  have hq1 := rcells_one' (L.drop j)
  obtain ⟨A, hA⟩ : ∃ A, A = rcells (L.take i ++ [x] ++ L.drop j) := ⟨_, rfl⟩
  obtain ⟨P, hP⟩ : ∃ P, P = rcells (L.take i) := ⟨_, rfl⟩
  obtain ⟨M, hM⟩ : ∃ M, M = rcells ((L.take j).drop i) := ⟨_, rfl⟩
  obtain ⟨Q, hQ⟩ : ∃ Q, Q = rcells (L.drop j) := ⟨_, rfl⟩
  obtain ⟨R, hR⟩ : ∃ R, R = cur.toList.drop (L.length * 3) := ⟨_, rfl⟩
  have hRl : R.length = (c - L.length) * 3 := by rw [hR, List.length_drop, Array.length_toList, hcs]; omega
  rw [← hP, ← hM, ← hQ, ← hR] at hC
  rw [← hA, ← hP, ← hQ] at eA
  rw [← hP] at hPl
  rw [← hM] at hMl
  rw [← hQ] at hQl hq1
  rw [← hA] at hAl
  have hg0 : w.heap[g]? = some (.cells (P ++ (M ++ (Q ++ R))).toArray 38 (0, 0)) := by rw [hg, ← hC]
  -- the first copy, in whatever number of draws
  have hcp1 : ∀ nq ty o dl dc sc, o = i * 3 → dl = i + 1 + (L.length - j) - i → (Builtin.copy_ #[30, 30] ty #[.slice (some ⟨g, o, none⟩) dl dc, .slice (some ⟨vb, 0, none⟩) 1 sc]).run Tryd.prog (w.drewN nq) = .ok (goInt ((1 : Nat) : Nat)) ((w.drewN nq).setRow g (splice (P ++ (M ++ (Q ++ R))) (i * 3) x.cells).toArray) := by
    intro nq ty o dl dc sc ho hdl
    subst ho
    exact run_copy_k _ 30 30 ty 38 3 g (i * 3) dl dc ⟨vb, 0, none⟩ 1 sc 1 _ 38 x.cells Tryd.underlying30 size42' hg0 (by simp only [Nat.min_def]; split <;> omega) rfl hx.cells (by simp only [List.length_append, cells_len]; omega) (cells_one x)
  have eM : (M ++ (Q ++ R)).drop 3 = M.drop 3 ++ (Q ++ R) := by rw [List.drop_append_of_le_length (by omega)]
  rw [splice_left P _ _ _ hPl, cells_len, eM] at hcp1
  have hg1 : ∀ nq, ((w.drewN nq).setRow g (P ++ (x.cells ++ (M.drop 3 ++ (Q ++ R)))).toArray).heap[g]? = some (.cells (P ++ (x.cells ++ (M.drop 3 ++ (Q ++ R)))).toArray 38 (0, 0)) := fun nq => setRow_heap (w.drewN nq) _ _ _ _ _ hg0
  have hg1d : ∀ nq, ((w.drewN nq).setRow g (P ++ (x.cells ++ (M.drop 3 ++ (Q ++ R)))).toArray).drew.heap[g]? = some (.cells (P ++ (x.cells ++ (M.drop 3 ++ (Q ++ R)))).toArray 38 (0, 0)) := hg1
  have hcp2 : ∀ nq ty o dl dc so sl sc, o = (i + 1) * 3 → dl = L.length - j → so = j * 3 → sl = L.length - j → (Builtin.copy_ #[30, 30] ty #[.slice (some ⟨g, o, none⟩) dl dc, .slice (some ⟨g, so, none⟩) sl sc]).run Tryd.prog ((w.drewN nq).setRow g (P ++ (x.cells ++ (M.drop 3 ++ (Q ++ R)))).toArray).drew = .ok (goInt ((L.length - j : Nat) : Nat)) (((w.drewN nq).setRow g (P ++ (x.cells ++ (M.drop 3 ++ (Q ++ R)))).toArray).drew.setRow g (splice (P ++ (x.cells ++ (M.drop 3 ++ (Q ++ R)))) ((i + 1) * 3) Q).toArray) := by
    intro nq ty o dl dc so sl sc ho hdl hso hsl
    subst ho
    refine run_copy_k _ 30 30 ty 38 3 g ((i + 1) * 3) dl dc ⟨g, so, none⟩ sl sc (L.length - j) _ 38 Q Tryd.underlying30 size42' (hg1 nq) (by rw [hdl, hsl]; simp) hQl (fun k u hu => ?_) (by simp only [List.length_append, cells_len, List.length_drop]; omega) hq1
    have hk := (List.getElem?_eq_some_iff.1 hu).1
    rw [Addr.add_lit, cell_of_row _ g _ _ _ _ (hg1d nq), hso]
    simp only [List.getElem?_toArray]
    rw [show P ++ (x.cells ++ (M.drop 3 ++ (Q ++ R))) = (P ++ (x.cells ++ M.drop 3)) ++ (Q ++ R) by simp, List.getElem?_append_right (by simp [cells_len]; omega), List.getElem?_append_left (by simp [cells_len]; omega), ← hu]
    congr 1
    simp [cells_len]; omega
  have e2 : splice (P ++ (x.cells ++ (M.drop 3 ++ (Q ++ R)))) ((i + 1) * 3) Q = A ++ (M.drop 3 ++ (Q ++ R)).drop Q.length := by
    rw [show P ++ (x.cells ++ (M.drop 3 ++ (Q ++ R))) = (P ++ x.cells) ++ (M.drop 3 ++ (Q ++ R)) by simp, splice_left _ _ _ _ (by simp [cells_len]; omega), eA]
    simp
  rw [e2] at hcp2
  obtain ⟨T, hT⟩ : ∃ T, T = (M.drop 3 ++ (Q ++ R)).drop Q.length := ⟨_, rfl⟩
  have hTl : T.length = (c - (i + 1 + (L.length - j))) * 3 := by rw [hT]; simp; omega
  rw [← hT] at hcp2
  have hg2 : ∀ nq, (((w.drewN nq).setRow g (P ++ (x.cells ++ (M.drop 3 ++ (Q ++ R)))).toArray).drew.setRow g (A ++ T).toArray).heap[g]? = some (.cells (A ++ T).toArray 38 (0, 0)) := fun nq => setRow_heap (World.drew _) _ _ _ _ _ (hg1 nq)
  have hE2 : ∀ nq, Ext [g] w (((w.drewN nq).setRow g (P ++ (x.cells ++ (M.drop 3 ++ (Q ++ R)))).toArray).drew.setRow g (A ++ T).toArray) := fun nq => (((Ext.drewN _ w nq).trans (Ext.setRow _ _ _ _ (by simp))).trans (Ext.drew _ _)).trans (Ext.setRow _ _ _ _ (by simp))
  by_cases hend : i + 1 = j
  · have HF : Hid (∀ nq, LPost w (.slice (some ⟨g, 0, none⟩) L.length c) (L.take i ++ [x] ++ L.drop j) (.returned (.slice (some ⟨g, 0, none⟩) (i + 1 + (L.length - j)) c)) (((w.drewN nq).setRow g (P ++ (x.cells ++ (M.drop 3 ++ (Q ++ R)))).toArray).drew.setRow g (A ++ T).toArray)) := fun nq =>
      ⟨_, rfl, lst_open2 _ _ hl' A T hA (hg2 nq) (by omega) hcm (by rw [List.length_append, hAl, hTl]; omega), .inl rfl, hE2 nq⟩
    generalize L.take i ++ [x] ++ L.drop j = L' at *
    generalize (A ++ T).toArray = Z2 at *
    generalize (P ++ (x.cells ++ (M.drop 3 ++ (Q ++ R)))).toArray = Z1 at *
    clear hx hL hg hcs hck hC hPl hMl hQl hRl hR hg1 hg1d hg2 hE2 hl' eA hAl hA hP hM hQ hT hTl eM e2 hq1 hg0
    generalize hn : L.length = n at *
    clear hn
    unfold maxLen at hcm
    obtain ⟨m, rfl⟩ : ∃ m, n = j + m := ⟨n - j, by omega⟩
    subst hend
    rw [show i + 1 + m - (i + 1) = m by omega] at hcp1 hcp2 HF
    have hcl : ∀ ty a c' W, (Builtin.clear_ #[30] ty #[.slice a 0 c']).run Tryd.prog W = .ok (.tuple #[]) W := fun ty a c' W => by
      cases a <;> simp [Builtin.clear_, run_underlying Tryd.underlying30]
    have hb1 : ¬ (c = i + 1) := by omega
    have hb2 : ¬ (c = i) := by omega
    have hb4 : (i : Int) ≤ ((i + 1 + m : Nat) : Int) := by omega
    have htn : ((i : Int) + 1).toNat = i + 1 := by omega
    have hsb : i + 1 + m - (i + 1) = m := by omega
    have hw1 : IntKind.i64.wrap ((i : Int) + 1) = (i : Int) + 1 := by rw [IntKind.wrap_i64]; omega
    have hb9 : (0 : Int) ≤ (i : Int) + 1 := by omega
    go_enter Tryd.func85, Tryd.ntmps85
    go_wp2_with fail
    go_quiet (fail)
    go_wp2_with fail
    have hb12 : (i : Int) + 1 ≤ (i : Int) + 1 + (m : Int) := by omega
    have hb13 : i + 1 ≤ i + 1 + m := by omega
    have hb14 : (((i : Int) + 1 + (m : Int))).toNat = i + 1 + m := by omega
    have hb15 : (0 : Int) ≤ (i : Int) + 1 + (m : Int) := by omega
    go_region_law (refine step_copy_run rfl _ _ 30 30 rfl (.slice (some ⟨g, (i + 1) * 3, none⟩) m (c - (i + 1))) (.slice (some ⟨g, (i + 1) * 3, none⟩) m (c - (i + 1))) _ (by simp [Act.eval, Act.put]) (by simp [Act.eval, Act.put]) (hcp2 _ _ _ _ _ _ _ _ rfl rfl rfl rfl) ?_)
    go_wp2_with fail
    all_goals go_ret
    all_goals first
      | exact HF.out _
      | (have hce : c = i + 1 + m := by assumption
         have hf := HF.out
         rw [hce] at hf
         exact hf _)
  · have hcl := fun nq ty c' => run_clear_r _ ty g ((i + 1 + (L.length - j)) * 3) (L.length - (i + 1 + (L.length - j))) c' _ (hg2 nq) (by omega) (by rw [List.length_append, hAl, hTl]; omega)
    rw [splice_left _ _ _ _ hAl] at hcl
    obtain ⟨T3, hT3⟩ : ∃ T3, T3 = zruns (L.length - (i + 1 + (L.length - j))) ++ T.drop (zruns (L.length - (i + 1 + (L.length - j)))).length := ⟨_, rfl⟩
    have hT3l : T3.length = T.length := by rw [hT3, List.length_append, List.length_drop, zruns_len, hTl]; omega
    rw [← hT3] at hcl
    have hg3 := fun nq => setRow_heap _ g _ (A ++ T3).toArray 38 _ (hg2 nq)
    have HF : Hid (∀ nq, LPost w (.slice (some ⟨g, 0, none⟩) L.length c) (L.take i ++ [x] ++ L.drop j) (.returned (.slice (some ⟨g, 0, none⟩) (i + 1 + (L.length - j)) c)) ((((w.drewN nq).setRow g (P ++ (x.cells ++ (M.drop 3 ++ (Q ++ R)))).toArray).drew.setRow g (A ++ T).toArray).setRow g (A ++ T3).toArray)) := fun nq => by
      refine ⟨_, rfl, lst_open2 _ _ hl' A T3 hA (hg3 nq) (by omega) hcm (by rw [List.length_append, hAl, hT3l, hTl]; omega), .inl rfl, (hE2 nq).trans (Ext.setRow _ _ _ _ (by simp))⟩
    generalize (A ++ T3).toArray = Z3 at *
    generalize L.take i ++ [x] ++ L.drop j = L' at *
    generalize (A ++ T).toArray = Z2 at *
    generalize (P ++ (x.cells ++ (M.drop 3 ++ (Q ++ R)))).toArray = Z1 at *
    clear hx hL hg hcs hck hC hPl hMl hQl hRl hR hg1 hg1d hg2 hg3 hE2 hl' eA hAl hA hP hM hQ hT hTl hT3 hT3l eM e2 hq1 hg0
    generalize hn : L.length = n at *
    clear hn
    unfold maxLen at hcm
    have hb1 : ¬ (c = i + 1) := by omega
    have hb2 : ¬ (c = i) := by omega
    have hb3 : ¬ (c = j) := by omega
    have hb4 : (i : Int) ≤ n := by omega
    have htn : ((i : Int) + 1).toNat = i + 1 := by omega
    go_enter Tryd.func85, Tryd.ntmps85
    have htn2 : ((i : Int) + 1 + ((n - j : Nat) : Int)).toNat = i + 1 + (n - j) := by omega
    have hw1 : IntKind.i64.wrap ((i : Int) + 1) = (i : Int) + 1 := by rw [IntKind.wrap_i64]; omega
    have hb5 : ¬ (c = i + 1 + (n - j)) := by omega
    have hb6 : (i : Int) + 1 + ((n - j : Nat) : Int) ≤ n := by omega
    have hb7 : (i : Int) ≤ (i : Int) + 1 + ((n - j : Nat) : Int) := by omega
    have hb8 : (i : Int) + 1 ≤ (i : Int) + 1 + ((n - j : Nat) : Int) := by omega
    have hb9 : (0 : Int) ≤ (i : Int) + 1 := by omega
    have hb10 : j ≤ n := by omega
    have hb11 : (j : Int) ≤ n := by omega
    go_wp2_with fail
    go_quiet (fail)
    go_wp2_with fail
    go_region_law (refine step_copy_run rfl _ _ 30 30 rfl (.slice (some ⟨g, (i + 1) * 3, none⟩) (n - j) (c - (i + 1))) (.slice (some ⟨g, j * 3, none⟩) (n - j) (c - j)) _ (by simp [Act.eval, Act.put]) (by simp [Act.eval, Act.put]) (hcp2 _ _ _ _ _ _ _ _ rfl rfl rfl rfl) ?_)
    go_wp2_with fail
    go_ret
    exact HF.out _

/-- slices.Replace of some runs by one. -/
theorem replace_any (v : Value) (i j : Nat) (L : List Rn) (w : World) (hL : Lst w v L) (hi : i < j) (hj : j ≤ L.length) (hlen : L.length ≤ 100000) (vb : Nat) (x : Rn) (hx : One w vb x) :
    Calls Tryd.prog 85 #[v, .int .i64 i, .int .i64 j, .slice (some ⟨vb, 0, none⟩) 1 1] w (LPost w v (L.take i ++ [x] ++ L.drop j)) := by
  obtain ⟨g, c, rfl, _⟩ := hL.at_ (by omega)
  by_cases he : j = L.length
  · subst he
    rw [List.drop_length, List.append_nil]
    exact replace_end g c i L w hL hi hlen vb x hx
  · exact replace_mid g c i j L w hL hi (by omega) hlen vb x hx

end Go.Proofs.YtlajjcboahflbaaDoor
