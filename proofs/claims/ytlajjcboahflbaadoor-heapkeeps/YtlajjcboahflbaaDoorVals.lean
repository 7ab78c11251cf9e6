/-
  The library's iterators over lists of objects, spans and runs; no statement is proved here.
-/
import Derived.Test.YtlajjcboahflbaaDoorSpns
namespace Go.Proofs.YtlajjcboahflbaaDoor
open Go.RowKit Go.Shelf

attribute [local go_sem] Oper.semAt_some

theorem kl_own {Bn : Nat} {v : Value} {A B : World} (h : Kl Bn v A B) {base : Nat} {e : TypeId} {s n : Nat} {xs : List Value} (hl : A.ownsRow base e s v n xs) : B.ownsRow base e s v n xs := by
  refine ⟨hl.1, ?_⟩
  rcases hl.2 with q | ⟨g, cap, cur, rfl, h1, h2, h3⟩
  · exact .inl q
  · exact .inr ⟨g, cap, cur, rfl, h1, h.row g rfl _ h2, h3⟩

/-- The cells of one element of a list of structs. -/
theorem own_at {w : World} {e : TypeId} {s : Nat} {v : Value} {α : Type} {L : List α} {f : α → List Value} (hf : ∀ x ∈ L, (f x).length = s) (h : w.ownsRow 0 e s v L.length (L.flatMap f)) {k : Nat} (hk : k < L.length) :
    ∃ g c, v = .slice (some ⟨g, 0, none⟩) L.length c ∧ ∀ j, j < s → w.cell? ⟨g, k * s + j, none⟩ = (f L[k])[j]? := by
  rcases h.2 with ⟨_, h2⟩ | ⟨g, cap, cur, h0, h1, h2, h3, h4, h5, h6⟩
  · omega
  · refine ⟨g, cap, h0, fun j hj => ?_⟩
    rw [cell_of_row w g _ _ _ _ h2]
    have hkl : k * s + j < L.length * s := by
      have : (k + 1) * s ≤ L.length * s := Nat.mul_le_mul_right _ hk
      rw [Nat.add_mul, Nat.one_mul] at this
      omega
    have e1 : (cur.toList.take (L.length * s))[k * s + j]? = cur[k * s + j]? := by
      rw [List.getElem?_take, if_pos hkl]; simp
    rw [← e1, h6]
    clear h6 e1 h5 h4 h3 h2 h1 h0 hkl h
    induction L generalizing k with
    | nil => simp at hk
    | cons a L ih =>
      rw [List.flatMap_cons]
      cases k with
      | zero =>
        rw [Nat.zero_mul, Nat.zero_add, List.getElem?_append_left (by rw [hf a (by simp)]; exact hj)]
        rfl
      | succ k =>
        rw [List.getElem?_append_right (by rw [hf a (by simp), Nat.add_mul]; omega), hf a (by simp), show (k + 1) * s + j - s = k * s + j by rw [Nat.add_mul, Nat.one_mul]; omega]
        exact ih (fun x hx => hf x (List.mem_cons_of_mem _ hx)) (by simpa using hk)

theorem obl_at {w : World} {v : Value} {L : List Ob} (h : Obl w v L) {k : Nat} (hk : k < L.length) : ∃ g c, v = .slice (some ⟨g, 0, none⟩) L.length c ∧ (w.cell? ⟨g, k * 4, none⟩ = some (.int .i64 L[k].1) ∧ w.cell? ⟨g, k * 4 + 1, none⟩ = some (.int .i64 L[k].2.1) ∧ w.cell? ⟨g, k * 4 + 2, none⟩ = some (.int .i64 L[k].2.2) ∧ w.cell? ⟨g, k * 4 + 3, none⟩ = some (.slice none 0 0)) := by
  obtain ⟨g, c, hv, hc⟩ := own_at (f := obc) (by intro x _; rfl) h hk
  exact ⟨g, c, hv, hc 0 (by omega), hc 1 (by omega), hc 2 (by omega), hc 3 (by omega)⟩
theorem spl_at {w : World} {v : Value} {L : List Spn} (h : Spl w v L) {k : Nat} (hk : k < L.length) : ∃ g c, v = .slice (some ⟨g, 0, none⟩) L.length c ∧ (w.cell? ⟨g, k * 5, none⟩ = some (.int .i64 L[k].st) ∧ w.cell? ⟨g, k * 5 + 1, none⟩ = some (.int .i64 L[k].n) ∧ w.cell? ⟨g, k * 5 + 2, none⟩ = some (.int .i64 L[k].rm) ∧ w.cell? ⟨g, k * 5 + 3, none⟩ = some (.int .i64 L[k].S.length) ∧ w.cell? ⟨g, k * 5 + 4, none⟩ = some (.int .i64 (us L[k].S))) := by
  obtain ⟨g, c, hv, hc⟩ := own_at (f := spc) (by intro x _; rfl) h hk
  exact ⟨g, c, hv, hc 0 (by omega), hc 1 (by omega), hc 2 (by omega), hc 3 (by omega), hc 4 (by omega)⟩
theorem lst_at {w : World} {v : Value} {L : List Rn} (h : Lst w v L) {k : Nat} (hk : k < L.length) : ∃ g c, v = .slice (some ⟨g, 0, none⟩) L.length c ∧ (w.cell? ⟨g, k * 3, none⟩ = some (.int .i64 L[k].s) ∧ w.cell? ⟨g, k * 3 + 1, none⟩ = some (.int .i64 L[k].n) ∧ w.cell? ⟨g, k * 3 + 2, none⟩ = some (.bool L[k].u)) := by
  obtain ⟨g, c, hv, hc⟩ := own_at (f := Rn.cells) (by intro x _; rfl) h hk
  exact ⟨g, c, hv, hc 0 (by omega), hc 1 (by omega), hc 2 (by omega)⟩

set_option maxRecDepth 100000 in
set_option maxHeartbeats 2000000 in
theorem vals78_in (F : Fence) (n : Nat) (h34 : F.fn 78) (hro : F.round = none) (hn : 1 ≤ n) (l Bn : Nat) (v : Value) (L : List Ob) (hlen : L.length ≤ 1000000000) (J Jx : List Ob → World → Prop) (B0 : Nat) (hJ : AbidesFrom B0 J)
    (hY : ∀ pre x W, J pre W → pre.length < L.length → YieldAt F (n - 1) Tryd.prog l #[.agg #[.int .i64 x.1, .int .i64 x.2.1, .int .i64 x.2.2, .slice none 0 0]] W fun e W' =>
      (e = .returned (.bool true) ∧ J (pre ++ [x]) W' ∧ Kl Bn v W W') ∨ (e = .returned (.bool false) ∧ Jx (pre ++ [x]) W'))
    (W : World) (hBn : Boxed W Bn 28 v) (hL : Obl W v L) (h0 : J [] W) :
    CallsIn F n Tryd.prog 78 #[.func (.yield l) #[] #[], .pointer (some ⟨Bn, 0, none⟩)] W fun e W' => (∃ v, e = .returned v) ∧
      ((∃ ys, ys = L ∧ J ys W') ∨ (∃ pre, pre <+: L ∧ Jx pre W')) := by
  obtain ⟨a, c, rfl, _⟩ := own_slice hL
  have hc := hBn.cell
  refine callsIn_of_wp Tryd.func78 rfl h34 ?_ hro
  simp only [Tryd.ntmps78, List.size_toArray, List.length_cons, List.length_nil, Nat.reduceAdd, Nat.reduceSub, Array.replicate_succ, Array.replicate_zero, List.push_toArray, List.append_toArray, List.nil_append, List.cons_append]
  have HL := hid hL
  have HB := hid hBn
  clear hL hBn
  gi_wp2
  gi_loopw [7] (fun q wr => ∃ k : Nat, q = .int .i64 k ∧ k ≤ L.length ∧ Obl wr (.slice a L.length c) L ∧ Boxed wr Bn 28 (.slice a L.length c) ∧ J (L.take k) wr) (fun q _ => (L.length - (intOf q)).toNat)
  case atStart => exact ⟨0, rfl, Nat.zero_le _, HL.out, HB.out, by simpa using h0⟩
  case round =>
    clear HL HB
    obtain ⟨k, rfl, hk, hL, hB, hJk⟩ := hrel
    have HL := hid hL
    have HB := hid hB
    have HJk := hid hJk
    clear hB hJk
    by_cases hlt : k < L.length
    · obtain ⟨g, c', hv, hcs⟩ := obl_at hL hlt
      simp only [Value.slice.injEq, true_and] at hv
      obtain ⟨rfl, rfl⟩ := hv
      have HM : Hid (L.take k ++ [L[k]] = L.take (k + 1)) := by
        show _ = _
        rw [List.take_add_one, List.getElem?_eq_getElem hlt]; rfl
      obtain ⟨x, hx⟩ : ∃ x, x = L[k] := ⟨_, rfl⟩
      rw [← hx] at hcs HM
      clear hx hL
      have hJ2 : J (L.take k) (wr.alloc (.cells #[.int .i64 x.1, .int .i64 x.2.1, .int .i64 x.2.2, .slice none 0 0] 34)) := hJ _ _ _ none HJk.out (World.grownBy_alloc _ _ _) (by simp)
      obtain ⟨fn, tmps, assign, body, hy, hR⟩ := hY (L.take k) x _ hJ2 (by simp; omega)
      clear hJ2
      gi_wp2
      refine hR.mono ?_
      rintro e W3 (⟨rfl, hJ3, hk3⟩ | ⟨rfl, hJx3⟩)
      · have hE := Ext.alloc [] wr (.cells #[.int .i64 x.1, .int .i64 x.2.1, .int .i64 x.2.2, .slice none 0 0] 34)
        have HL3 := hid (kl_own hk3 (own_keep0 HL.out hE))
        have HB3 := hid (hk3.boxed (HB.out.alloc _))
        clear hE
        gi_wp2
        go_roundw
        case rel => exact ⟨k + 1, by go_num, by omega, HL3.out, HB3.out, by rw [← HM.out]; exact hJ3⟩
        case measure => simp [intOf]; omega
      · gi_wp2
        refine bodyPost_ret (results_none rfl _ _ _) rfl ?_
        exact ⟨⟨_, rfl⟩, .inr ⟨_, by rw [HM.out]; exact List.take_prefix _ _, hJx3⟩⟩
    · obtain rfl : k = L.length := by omega
      gi_wp2
      go_end0
      exact ⟨⟨_, rfl⟩, .inl ⟨L, rfl, by have := HJk.out; rwa [List.take_length] at this⟩⟩

theorem vals78_stops (F : Fence) (n : Nat) (h34 : F.fn 78) (hro : F.round = none) (hn : 1 ≤ n) (Bn : Nat) (v : Value) (L : List Ob) (hlen : L.length ≤ 1000000000) (w : World) (hB : Boxed w Bn 28 v) (hL : Obl w v L) :
    SeqStopsK F n Tryd.prog 78 #[.pointer (some ⟨Bn, 0, none⟩)] (fun x : Ob => #[Value.agg #[.int .i64 x.1, .int .i64 x.2.1, .int .i64 x.2.2, .slice none 0 0]]) (Kl Bn v) (fun ys => ys = L) (fun pre => pre <+: L) L.length w := fun l J Jx W hW hJ _ hY h0 =>
  vals78_in F n h34 hro hn l Bn v L hlen J Jx _ hJ hY W ((below_ext hW).keep hB (by simp)) (own_keep0 hL (below_ext hW)) h0

set_option maxRecDepth 100000 in
set_option maxHeartbeats 2000000 in
theorem vals80_in (F : Fence) (n : Nat) (h34 : F.fn 80) (hro : F.round = none) (hn : 1 ≤ n) (l Bn : Nat) (v : Value) (L : List Spn) (hlen : L.length ≤ 1000000000) (J Jx : List Spn → World → Prop) (B0 : Nat) (hJ : AbidesFrom B0 J)
    (hY : ∀ pre x W, J pre W → pre.length < L.length → YieldAt F (n - 1) Tryd.prog l #[.agg #[.int .i64 x.st, .int .i64 x.n, .int .i64 x.rm, .int .i64 x.S.length, .int .i64 (us x.S)]] W fun e W' =>
      (e = .returned (.bool true) ∧ J (pre ++ [x]) W' ∧ Kl Bn v W W') ∨ (e = .returned (.bool false) ∧ Jx (pre ++ [x]) W'))
    (W : World) (hBn : Boxed W Bn 29 v) (hL : Spl W v L) (h0 : J [] W) :
    CallsIn F n Tryd.prog 80 #[.func (.yield l) #[] #[], .pointer (some ⟨Bn, 0, none⟩)] W fun e W' => (∃ v, e = .returned v) ∧
      ((∃ ys, ys = L ∧ J ys W') ∨ (∃ pre, pre <+: L ∧ Jx pre W')) := by
  obtain ⟨a, c, rfl, _⟩ := own_slice hL
  have hc := hBn.cell
  refine callsIn_of_wp Tryd.func80 rfl h34 ?_ hro
  simp only [Tryd.ntmps80, List.size_toArray, List.length_cons, List.length_nil, Nat.reduceAdd, Nat.reduceSub, Array.replicate_succ, Array.replicate_zero, List.push_toArray, List.append_toArray, List.nil_append, List.cons_append]
  have HL := hid hL
  have HB := hid hBn
  clear hL hBn
  gi_wp2
  gi_loopw [7] (fun q wr => ∃ k : Nat, q = .int .i64 k ∧ k ≤ L.length ∧ Spl wr (.slice a L.length c) L ∧ Boxed wr Bn 29 (.slice a L.length c) ∧ J (L.take k) wr) (fun q _ => (L.length - (intOf q)).toNat)
  case atStart => exact ⟨0, rfl, Nat.zero_le _, HL.out, HB.out, by simpa using h0⟩
  case round =>
    clear HL HB
    obtain ⟨k, rfl, hk, hL, hB, hJk⟩ := hrel
    have HL := hid hL
    have HB := hid hB
    have HJk := hid hJk
    clear hB hJk
    by_cases hlt : k < L.length
    · obtain ⟨g, c', hv, hcs⟩ := spl_at hL hlt
      simp only [Value.slice.injEq, true_and] at hv
      obtain ⟨rfl, rfl⟩ := hv
      have HM : Hid (L.take k ++ [L[k]] = L.take (k + 1)) := by
        show _ = _
        rw [List.take_add_one, List.getElem?_eq_getElem hlt]; rfl
      obtain ⟨x, hx⟩ : ∃ x, x = L[k] := ⟨_, rfl⟩
      rw [← hx] at hcs HM
      clear hx hL
      have hJ2 : J (L.take k) (wr.alloc (.cells #[.int .i64 x.st, .int .i64 x.n, .int .i64 x.rm, .int .i64 x.S.length, .int .i64 (us x.S)] 36)) := hJ _ _ _ none HJk.out (World.grownBy_alloc _ _ _) (by simp)
      obtain ⟨fn, tmps, assign, body, hy, hR⟩ := hY (L.take k) x _ hJ2 (by simp; omega)
      clear hJ2
      gi_wp2
      refine hR.mono ?_
      rintro e W3 (⟨rfl, hJ3, hk3⟩ | ⟨rfl, hJx3⟩)
      · have hE := Ext.alloc [] wr (.cells #[.int .i64 x.st, .int .i64 x.n, .int .i64 x.rm, .int .i64 x.S.length, .int .i64 (us x.S)] 36)
        have HL3 := hid (kl_own hk3 (own_keep0 HL.out hE))
        have HB3 := hid (hk3.boxed (HB.out.alloc _))
        clear hE
        gi_wp2
        go_roundw
        case rel => exact ⟨k + 1, by go_num, by omega, HL3.out, HB3.out, by rw [← HM.out]; exact hJ3⟩
        case measure => simp [intOf]; omega
      · gi_wp2
        refine bodyPost_ret (results_none rfl _ _ _) rfl ?_
        exact ⟨⟨_, rfl⟩, .inr ⟨_, by rw [HM.out]; exact List.take_prefix _ _, hJx3⟩⟩
    · obtain rfl : k = L.length := by omega
      gi_wp2
      go_end0
      exact ⟨⟨_, rfl⟩, .inl ⟨L, rfl, by have := HJk.out; rwa [List.take_length] at this⟩⟩

theorem vals80_stops (F : Fence) (n : Nat) (h34 : F.fn 80) (hro : F.round = none) (hn : 1 ≤ n) (Bn : Nat) (v : Value) (L : List Spn) (hlen : L.length ≤ 1000000000) (w : World) (hB : Boxed w Bn 29 v) (hL : Spl w v L) :
    SeqStopsK F n Tryd.prog 80 #[.pointer (some ⟨Bn, 0, none⟩)] (fun x : Spn => #[Value.agg #[.int .i64 x.st, .int .i64 x.n, .int .i64 x.rm, .int .i64 x.S.length, .int .i64 (us x.S)]]) (Kl Bn v) (fun ys => ys = L) (fun pre => pre <+: L) L.length w := fun l J Jx W hW hJ _ hY h0 =>
  vals80_in F n h34 hro hn l Bn v L hlen J Jx _ hJ hY W ((below_ext hW).keep hB (by simp)) (own_keep0 hL (below_ext hW)) h0

set_option maxRecDepth 100000 in
set_option maxHeartbeats 2000000 in
theorem vals81_in (F : Fence) (n : Nat) (h34 : F.fn 81) (hro : F.round = none) (hn : 1 ≤ n) (l Bn : Nat) (v : Value) (L : List Rn) (hlen : L.length ≤ 1000000000) (J Jx : List Rn → World → Prop) (B0 : Nat) (hJ : AbidesFrom B0 J)
    (hY : ∀ pre x W, J pre W → pre.length < L.length → YieldAt F (n - 1) Tryd.prog l #[.agg #[.int .i64 x.s, .int .i64 x.n, .bool x.u]] W fun e W' =>
      (e = .returned (.bool true) ∧ J (pre ++ [x]) W' ∧ Kl Bn v W W') ∨ (e = .returned (.bool false) ∧ Jx (pre ++ [x]) W'))
    (W : World) (hBn : Boxed W Bn 30 v) (hL : Lst W v L) (h0 : J [] W) :
    CallsIn F n Tryd.prog 81 #[.func (.yield l) #[] #[], .pointer (some ⟨Bn, 0, none⟩)] W fun e W' => (∃ v, e = .returned v) ∧
      ((∃ ys, ys = L ∧ J ys W') ∨ (∃ pre, pre <+: L ∧ Jx pre W')) := by
  obtain ⟨a, c, rfl, _⟩ := own_slice hL
  have hc := hBn.cell
  refine callsIn_of_wp Tryd.func81 rfl h34 ?_ hro
  simp only [Tryd.ntmps81, List.size_toArray, List.length_cons, List.length_nil, Nat.reduceAdd, Nat.reduceSub, Array.replicate_succ, Array.replicate_zero, List.push_toArray, List.append_toArray, List.nil_append, List.cons_append]
  have HL := hid hL
  have HB := hid hBn
  clear hL hBn
  gi_wp2
  gi_loopw [7] (fun q wr => ∃ k : Nat, q = .int .i64 k ∧ k ≤ L.length ∧ Lst wr (.slice a L.length c) L ∧ Boxed wr Bn 30 (.slice a L.length c) ∧ J (L.take k) wr) (fun q _ => (L.length - (intOf q)).toNat)
  case atStart => exact ⟨0, rfl, Nat.zero_le _, HL.out, HB.out, by simpa using h0⟩
  case round =>
    clear HL HB
    obtain ⟨k, rfl, hk, hL, hB, hJk⟩ := hrel
    have HL := hid hL
    have HB := hid hB
    have HJk := hid hJk
    clear hB hJk
    by_cases hlt : k < L.length
    · obtain ⟨g, c', hv, hcs⟩ := lst_at hL hlt
      simp only [Value.slice.injEq, true_and] at hv
      obtain ⟨rfl, rfl⟩ := hv
      have HM : Hid (L.take k ++ [L[k]] = L.take (k + 1)) := by
        show _ = _
        rw [List.take_add_one, List.getElem?_eq_getElem hlt]; rfl
      obtain ⟨x, hx⟩ : ∃ x, x = L[k] := ⟨_, rfl⟩
      rw [← hx] at hcs HM
      clear hx hL
      have hJ2 : J (L.take k) (wr.alloc (.cells #[.int .i64 x.s, .int .i64 x.n, .bool x.u] 38)) := hJ _ _ _ none HJk.out (World.grownBy_alloc _ _ _) (by simp)
      obtain ⟨fn, tmps, assign, body, hy, hR⟩ := hY (L.take k) x _ hJ2 (by simp; omega)
      clear hJ2
      gi_wp2
      refine hR.mono ?_
      rintro e W3 (⟨rfl, hJ3, hk3⟩ | ⟨rfl, hJx3⟩)
      · have hE := Ext.alloc [] wr (.cells #[.int .i64 x.s, .int .i64 x.n, .bool x.u] 38)
        have HL3 := hid (kl_own hk3 (own_keep0 HL.out hE))
        have HB3 := hid (hk3.boxed (HB.out.alloc _))
        clear hE
        gi_wp2
        go_roundw
        case rel => exact ⟨k + 1, by go_num, by omega, HL3.out, HB3.out, by rw [← HM.out]; exact hJ3⟩
        case measure => simp [intOf]; omega
      · gi_wp2
        refine bodyPost_ret (results_none rfl _ _ _) rfl ?_
        exact ⟨⟨_, rfl⟩, .inr ⟨_, by rw [HM.out]; exact List.take_prefix _ _, hJx3⟩⟩
    · obtain rfl : k = L.length := by omega
      gi_wp2
      go_end0
      exact ⟨⟨_, rfl⟩, .inl ⟨L, rfl, by have := HJk.out; rwa [List.take_length] at this⟩⟩

theorem vals81_stops (F : Fence) (n : Nat) (h34 : F.fn 81) (hro : F.round = none) (hn : 1 ≤ n) (Bn : Nat) (v : Value) (L : List Rn) (hlen : L.length ≤ 1000000000) (w : World) (hB : Boxed w Bn 30 v) (hL : Lst w v L) :
    SeqStopsK F n Tryd.prog 81 #[.pointer (some ⟨Bn, 0, none⟩)] (fun x : Rn => #[Value.agg #[.int .i64 x.s, .int .i64 x.n, .bool x.u]]) (Kl Bn v) (fun ys => ys = L) (fun pre => pre <+: L) L.length w := fun l J Jx W hW hJ _ hY h0 =>
  vals81_in F n h34 hro hn l Bn v L hlen J Jx _ hJ hY W ((below_ext hW).keep hB (by simp)) (own_keep0 hL (below_ext hW)) h0

end Go.Proofs.YtlajjcboahflbaaDoor
