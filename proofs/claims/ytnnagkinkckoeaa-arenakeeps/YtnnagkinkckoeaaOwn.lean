/-
  What the statements' own helper own does: a copy of some bytes in new memory; no statement is proved here.
-/
import Derived.Test.YtnnagkinkckoeaaArgs
namespace Go.Proofs.Ytnnagkinkckoeaa
open Go.ChangeShapes Go.WideShapes Go.ChangeAt Go.RowKit

/-- The bytes xs at the head of block b, with room for c. -/
structure Owns (w : World) (b c : Nat) (xs : List Int) : Prop where
  at_ : ∃ cur : Array Value, w.heap[b]? = some (.cells cur 5 (0, 0)) ∧ cur.size = c ∧ xs.length ≤ c ∧ cur.toList.take xs.length = xs.map (Value.int .u8)
  max : c ≤ maxLen
  ok : Bts xs

theorem Owns.lt {w : World} {b c : Nat} {xs : List Int} (h : Owns w b c xs) : b < w.heap.size := by
  obtain ⟨cur, h1, _⟩ := h.at_; exact lt_of_heap h1
theorem Owns.sl {w : World} {b c : Nat} {xs : List Int} (h : Owns w b c xs) : Sl w (some ⟨b, 0, none⟩) xs := by
  obtain ⟨cur, h1, h2, h3, h4⟩ := h.at_
  refine ⟨.inr ⟨b, 0, rfl, fun j hj => ?_⟩, h.ok⟩
  rw [Nat.zero_add, cell_of_row w b j _ _ _ h1]
  have e : (cur.toList.take xs.length)[j]? = cur[j]? := by
    rw [List.getElem?_take, if_pos hj]; simp
  rw [← e, h4]; simp [hj]
theorem Owns.keep {S : List Nat} {w w' : World} {b c : Nat} {xs : List Int} (h : Owns w b c xs) (e : Ext S w w') (hs : b ∉ S) : Owns w' b c xs := by
  obtain ⟨cur, h1, h2⟩ := h.at_
  exact ⟨⟨cur, Ext.keep e h1 hs, h2⟩, h.max, h.ok⟩
theorem Owns.row {w : World} {b c : Nat} {xs : List Int} (h : Owns w b c xs) (base : Nat) (hb : base ≤ b) : w.ownsRow base 5 1 (.slice (some ⟨b, 0, none⟩) xs.length c) xs.length (xs.map (Value.int .u8)) := by
  obtain ⟨cur, h1, h2, h3, h4⟩ := h.at_
  exact ⟨by simp, .inr ⟨b, c, cur, rfl, hb, h1, h3, h.max, by rw [h2, Nat.mul_one], by rw [Nat.mul_one]; exact h4⟩⟩

/-- append onto bytes of one's own. -/
theorem run_append_bytes (w : World) (ty : TypeId) (b c n : Nat) (xs ys : List Int) (a : Option Addr) (m d : Nat) (hO : Owns w b c xs) (hS : Sl w a ys) (hn : xs.length = n) (hm : ys.length = m) (hb : n + m ≤ 140737488355328) (base : Nat) (hbase : base ≤ b) :
    ∃ b' c' w', (Builtin.append_ #[29, 29] ty #[.slice (some ⟨b, 0, none⟩) n c, .slice a m d]).run Try.prog w = .ok (.slice (some ⟨b', 0, none⟩) (n + m) c') w' ∧ Owns w' b' c' (xs ++ ys) ∧ Ext [b] w w' ∧ base ≤ b' := by
  obtain ⟨i, hi, hz0, hz1, hz2⟩ := info_parts info5
  subst hn; subst hm
  by_cases h0 : ys = []
  · subst h0
    refine ⟨b, c, w, ?_, by rw [List.append_nil]; exact hO, Ext.refl _ _, hbase⟩
    obtain ⟨cur, h1, h2, h3, h4⟩ := hO.at_
    cases a with
    | none => simp [Builtin.append_, run_underlying Try.underlying29, sizeOf, typeInfo, hi, Builtin.lenOf, Builtin.firstCells, h3, storeCells]
    | some ad => simp [Builtin.append_, run_underlying Try.underlying29, sizeOf, typeInfo, hi, Builtin.lenOf, Builtin.firstCells, h3, storeCells, loadCells, loadCellsFrom]
  · rcases hS.at_ with h | ⟨q, o, rfl, hc⟩
    · exact absurd h h0
    · have hcs : ∀ j v, (ys.map (Value.int .u8))[j]? = some v → w.cell? ((⟨q, o, none⟩ : Addr).add j) = some v := by
        intro j v hv
        have hj : j < ys.length := by
          have := (List.getElem?_eq_some_iff.1 hv).1
          simpa using this
        rw [Addr.add_lit, hc j hj, ← hv]
        simp [hj]
      obtain ⟨v', w', hr, hown, hg, _⟩ := run_append_own (P := Try.prog) w base 29 ty 5 i _ 1 1 Try.underlying29 hi hz0 hz1 hz2 rfl (by decide) _ _ _ (hO.row base hbase) ⟨q, o, none⟩ ys.length d (ys.map (Value.int .u8)) (by simp) hcs (ints_oneCell _ _) (by unfold maxLen; omega) (by omega) (by have := hO.lt; omega)
      have hp : 0 < ys.length := List.length_pos_iff.2 h0
      rcases hown.2 with ⟨_, hz⟩ | ⟨g, cap, cur, rfl, hbg, hh, hnc, hcm, hcs2, htk⟩
      · omega
      · refine ⟨g, cap, w', hr, ⟨⟨cur, hh, by omega, by rw [List.length_append]; exact hnc, ?_⟩, hcm, ?_⟩, Ext.grown hg (by intro k hk; simp [Value.ownBlock] at hk; simp [hk]), hbg⟩
        · rw [List.length_append, ← Nat.mul_one (xs.length + ys.length), htk]; simp
        · intro x hx
          rcases List.mem_append.1 hx with h | h
          · exact hO.ok x h
          · exact hS.ok x h


/-- append, met by what its run is known to be. -/
theorem wpList_append_run {P : Program} {w w' : World} {ops : Array Oper} {rest : List Oper} {o : Oper} {a : Act} {Q : Exit → Act → World → Prop} (hgd : o.guard = none) (s x : Operand) (t : TypeId)
    (ho : o.op = .call { callee := .builtin .append, args := #[s, x], argTypes := #[t, t] }) (vs vx v' : Value) (hs : a.eval s = vs) (hx : a.eval x = vx)
    (hr : (Builtin.append_ #[t, t] o.type #[vs, vx]).run P w = .ok v' w') (h : wpList P ops Q rest (a.put o.dst v') w') : wpList P ops Q (o :: rest) a w := by
  refine wpList_plain hgd fun K hK => ?_
  unfold Oper.wp execOp
  simp only [ho, resolve, invoke, builtin, Sem.run_bind, Sem.run_pure, Result.andThen_ok, List.map_toArray, List.map_cons, List.map_nil, hs, hx, hr]
  exact hK _ _ h

/-- The bytes xs in new memory; nothing that was there has turned. -/
def OwnPost (w : World) (xs : List Int) (n : Nat) (e : Ending) (w' : World) : Prop :=
  ∃ b c, e = .returned (.slice (some ⟨b, 0, none⟩) n c) ∧ Owns w' b c xs ∧ Ext [] w w' ∧ w.heap.size ≤ b

theorem own_any (a : Option Addr) (n c : Nat) (xs : List Int) (w : World) (hS : Sl w a xs) (hn : xs.length = n) (hb : n ≤ 140737488355328) : Calls Try.prog 21 #[.slice a n c] w (OwnPost w xs n) := by
  have hO : Owns (w.alloc (.cells #[] 5)) w.heap.size 0 [] := ⟨⟨#[], heap_alloc_new w _, rfl, Nat.le_refl _, rfl⟩, Nat.zero_le _, by intro x hx; simp at hx⟩
  obtain ⟨b, c', w2, hr, hO2, hE2, hbb⟩ := run_append_bytes (w.alloc (.cells #[] 5)) 29 w.heap.size 0 0 [] xs a n c hO (hS.keep (Ext.alloc [] w _) (by simp)) rfl hn (by omega) w.heap.size (Nat.le_refl _)
  rw [Nat.zero_add] at hr
  rw [List.nil_append] at hO2
  have HO : Hid (Owns w2 b c' xs) := hO2
  have HE : Hid (Ext [] w w2) := ((Ext.alloc [w.heap.size] w _).trans hE2).drop (by simp)
  clear hO hO2 hE2 hS hn
  go_enter Try.func21, Try.ntmps21
  go_wp2_with (at_builtin; refine wpList_append_run rfl _ _ 29 rfl _ _ _ rfl rfl hr ?_)
  go_ret
  exact ⟨b, c', rfl, HO.out, HE.out, hbb⟩

end Go.Proofs.Ytnnagkinkckoeaa
