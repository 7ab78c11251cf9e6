/-
  A copied table with an interface behind it; the reference's Zero; no statement is proved here.
-/
import Derived.Test.YtpjcbpgfbhlioaaDoorBoxM
import Derived.Test.YtpjcbpgfbhlioaaDoorRowC
namespace Go.Proofs.YtpjcbpgfbhlioaaDoor
open Go.RowKit

theorem rows_ext {ts us : List Ty} {G H : Nat → Option Addr × Nat} : ∀ k, (∀ i : Nat, i < k → tyAt ts i = tyAt us i ∧ G i = H i) → rows ts G k = rows us H k
  | 0, _ => rfl
  | k + 1, h => by rw [rows, rows, rows_ext k (fun i hi => h i (by omega)), (h k (by omega)).1, (h k (by omega)).2]

def rI : List Value := [.int .i64 7, .int .i64 0, .int .i64 0, .int .i64 0, .slice none 0 0]

set_option maxHeartbeats 1000000 in
theorem appI (w w2 : World) (a : Option Addr) (n c : Nat) (ts : List Ty) (G : Nat → Option Addr × Nat) (hn : ts.length = n) (hE : Ext [] w w2) (hC : Cp w w2 a n c ts G) (hT : Tab w2 a ts) :
    ∃ g c4 w4, (Builtin.append_ #[22, 22] 22 #[.slice a n c, .slice (some ⟨w2.heap.size, 0, none⟩) 1 1]).run Tryd.prog (w2.alloc (.cells #[.int .i64 7, .int .i64 0, .int .i64 0, .int .i64 0, .slice none 0 0] 42)) = .ok (.slice (some ⟨g, 0, none⟩) (n + 1) c4) w4 ∧
      (n ≤ 64 → Tab w4 (some ⟨g, 0, none⟩) (ts ++ [ifaceTy])) ∧ n + 1 ≤ c4 ∧ Ext [] w w4 := by
  have hl := hT.len
  have hfl : ∀ i, i < n → (tyAt ts i).fields.length ≤ 17592186044416 := fun i hi => by
    obtain ⟨b, o, _, h2⟩ := hT.addr (by omega)
    obtain ⟨fa, fc, h3⟩ := h2 i (by omega)
    exact h3.f.2
  have hA := Ext.alloc [] w2 (.cells #[.int .i64 7, .int .i64 0, .int .i64 0, .int .i64 0, .slice none 0 0] 42)
  have hOw := own_keep0 hC.own hA
  have holt := own_lt hC.own
  have hEw := hE.trans hA
  obtain ⟨v2, w4, hr2, hO2, hg2, _, hnew⟩ := run_append_own_at (P := Tryd.prog) _ w.heap.size 22 22 42 _ _ 5 56 Tryd.underlying22 (info_parts info42).choose_spec.1 (info_parts info42).choose_spec.2.1 (info_parts info42).choose_spec.2.2.1 (info_parts info42).choose_spec.2.2.2 rfl (by decide) _ n _ hOw ⟨w2.heap.size, 0, none⟩ 1 1 rI (by simp [rI]) (fun j u hu => by
    rw [Addr.add_lit, cell_of_row _ _ _ _ _ _ (heap_alloc_new w2 _), Nat.zero_add, ← hu]; simp [rI]) (by simp [rI, Value.oneCell']) (by unfold maxLen; omega) (by omega) hEw.size
  have hX2 : Ext (Value.slice a n c).ownBlock.toList _ w4 := Ext.grown hg2 (by intro q hq; simp [hq])
  rcases hO2.2 with ⟨_, h2⟩ | ⟨g, cap, cur, e0, h1, h2, h3, h4, h5, h6⟩
  · omega
  subst e0
  refine ⟨g, cap, w4, hr2, fun h64 => ?_, h3, hEw.on hX2 (fun x hx => (holt x (by simpa using hx)).1)⟩
  have hr : rows ts G n ++ rI = rows (ts ++ [ifaceTy]) (fun i => if i < n then G i else (none, 0)) (n + 1) := by
    have h1 : rows (ts ++ [ifaceTy]) (fun i => if i < n then G i else (none, 0)) n = rows ts G n := rows_ext n (fun i hi => ⟨tyAt_left (by omega) (by omega), by simp [hi]⟩)
    rw [show rows (ts ++ [ifaceTy]) (fun i => if i < n then G i else (none, 0)) (n + 1) = rows (ts ++ [ifaceTy]) (fun i => if i < n then G i else (none, 0)) n ++ tyRow (tyAt (ts ++ [ifaceTy]) (n : Nat)) (if n < n then G n else (none, 0)) from rfl, h1]
    refine congrArg (rows ts G n ++ ·) ?_
    subst hn
    rw [tyAt_last]
    simp [rI, tyRow, ifaceTy]
  rw [hr] at hO2
  have hF : Fs w w4 ts G n := fun i hi => own_keep (own_keep0 (hC.fs i hi) hA) hX2 (fun q hq => by
    obtain ⟨cur', hc'⟩ := own_at hOw (by simpa using hq)
    exact own_ne (own_keep0 (hC.fs i hi) hA) hc' (by decide))
  have hcp : Cp w w4 (some ⟨g, 0, none⟩) (n + 1) cap (ts ++ [ifaceTy]) (fun i => if i < n then G i else (none, 0)) := ⟨hO2, fun i hi => by
    by_cases e : i < n
    · simp only [e, if_true]
      rw [tyAt_left (by omega) (by omega)]
      exact hF i e
    · obtain rfl : i = n := by omega
      simp only [Nat.lt_irrefl, if_false]
      subst hn
      rw [tyAt_last]
      exact own_nil _ _ _ _⟩
  refine hcp.tab (by simp [hn]) (by omega) (fun i hi => ?_)
  by_cases e : i < n
  · rw [tyAt_left (by omega) (by omega)]; exact hfl i e
  · obtain rfl : i = n := by omega
    subst hn
    rw [tyAt_last]; simp [ifaceTy]

/-- A row of cells is made. -/
theorem mk_cells (w : World) (n : Nat) (hl : n ≤ 2513169434843) : (Instr.makeSlice 23 (.int .i64 (n : Int)) (.int .i64 (n : Int))).run Tryd.prog w = .ok (.slice (some ⟨w.heap.size, 0, none⟩) n n) (w.alloc (.cells (madeCells #[.int .u64 0, .string ⟨#[]⟩, .int .i64 0, .slice none 0 0] (n * 4)) 49)) := by
  obtain ⟨i, hi, hz, hs, hb⟩ := info_parts info49
  have := run_make (P := Tryd.prog) w 23 49 i _ Tryd.underlying23 hi hz .i64 .i64 n n (by omega) (by omega) (by rw [hb]; omega) (by omega)
  rw [hs] at this
  simpa [Value.cells] using this
theorem made4 (z : Array Value) (hz : z.size = 4) (n i j : Nat) (hi : i < n) (hj : j < 4) : (madeCells z (n * 4))[i * 4 + j]? = z[j]? := by
  have h1 : i * 4 + j < n * 4 := by omega
  have h2 : (i * 4 + j) % z.size = j := by rw [hz]; omega
  have h3 : j < z.size := by omega
  simp [madeCells, h1, h2, h3]
theorem cs_made (w : World) (n : Nat) (hl : n ≤ 2513169434843) : Cs 1 (w.alloc (.cells (madeCells #[.int .u64 0, .string ⟨#[]⟩, .int .i64 0, .slice none 0 0] (n * 4)) 49)) (some ⟨w.heap.size, 0, none⟩) (List.replicate n zeroCl) := by
  refine ⟨by simpa using hl, .inr ⟨_, _, rfl, fun i hi => ⟨none, 0, ?_, ?_⟩⟩⟩
  rotate_left
  · have hi' : i < n := by simpa using hi
    have hz : cAt (List.replicate n zeroCl) i = zeroCl := by simp [cAt, List.getD, hi']
    rw [hz]
    rfl
  have hi' : i < n := by simpa using hi
  have hz : cAt (List.replicate n zeroCl) i = zeroCl := by simp [cAt, List.getD, hi']
  have key : ∀ j v, j < 4 → (#[Value.int .u64 0, .string ⟨#[]⟩, .int .i64 0, .slice none 0 0])[j]? = some v → (w.alloc (.cells (madeCells #[.int .u64 0, .string ⟨#[]⟩, .int .i64 0, .slice none 0 0] (n * 4)) 49)).cell? ⟨w.heap.size, 0 + i * 4 + j, none⟩ = some v := fun j v hj hv => by
    rw [Nat.zero_add, cell_of_row _ _ _ _ _ _ (heap_alloc_new w _), made4 _ rfl n i j hi' hj]
    exact hv
  rw [hz]
  exact ⟨key 0 _ (by omega) rfl, key 1 _ (by omega) rfl, key 2 _ (by omega) rfl, key 3 _ (by omega) rfl, by decide, by decide, by decide, by decide⟩

set_option maxRecDepth 100000 in
set_option maxHeartbeats 1000000 in
/-- The reference's Zero at a type of a sound table. -/
theorem rzero_any (ts : List Ty) (ta : Option Addr) (tn tc : Nat) (htn : ts.length = tn) (hS : Sound ts) (t : Nat) (ht : t < tn) (w : World) (hT : Tab w ta ts) :
    Calls Tryd.prog 26 #[.slice ta tn tc, .int .i64 t] w (fun e w' => ∃ a k, e = .returned (.tuple #[.slice a k k, .int .i64 0]) ∧ Hid (Cs 1 w' a (List.replicate k zeroCl)) ∧ Ext [] w w') := by
  have K := rwidth_any ta ts tn tc t w hT htn
  have hb : bad ts t = 0 := by unfold bad; rw [if_pos hS, if_pos ⟨by omega, by omega⟩]
  have hkl := kinds_len hS.2.1 (t + 1) t (by omega) (by omega) (by omega)
  have hkw := (sound_fit hS (i := t) (by omega)).2
  rw [mo_ok hb, hb, ← hkl] at K
  have hk : (kinds ts t).length ≤ 16 := by omega
  generalize (kinds ts t).length = k at *
  have hmk := fun u => mk_cells u k (by omega)
  have HCM := hid (fun u => cs_made u k (by omega))
  clear hb hkl hkw hT hS
  go_enter Tryd.func26, Tryd.ntmps26
  go_wp2_with (first | (go_at_call 40; refine K.mono ?_; clear K; rintro e w1 ⟨rfl, hE1⟩; replace hE1 := hid hE1) | fail "no arm")
  go_ret2
  exact ⟨_, k, rfl, hid (HCM.out w1), hE1.out.trans (Ext.alloc _ _ _)⟩

end Go.Proofs.YtpjcbpgfbhlioaaDoor
