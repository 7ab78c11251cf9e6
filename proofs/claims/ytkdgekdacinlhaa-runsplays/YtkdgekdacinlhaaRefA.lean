/-
  The statements' own reference: its pages, New, and how many free pages stand from one on; no statement is proved here.
-/
import Derived.Test.YtkdgekdacinlhaaRefMath
import Derived.Deep.OwnRows
import Derived.Laws.OwnMore
namespace Go.Proofs.Ytkdgekdacinlhaa
open Go.RowKit

/-- The reference's struct lies in block q and holds the slice v of the pages O. -/
structure Rf (w : World) (q : Nat) (v : Value) (O : List Int) : Prop where
  box : w.heap[q]? = some (.cells #[v] 57 (0, 0))
  row : w.ownsRow 0 3 1 v O.length (O.map (Value.int .i64))

theorem Rf.cell {w : World} {q : Nat} {v : Value} {O : List Int} (h : Rf w q v O) : w.cell? ⟨q, 0, none⟩ = some v := by
  rw [cell_of_row w q 0 _ _ _ h.box]; rfl
theorem Rf.lt {w : World} {q : Nat} {v : Value} {O : List Int} (h : Rf w q v O) : q < w.heap.size := lt_of_heap h.box
theorem Rf.ne {w : World} {q : Nat} {v : Value} {O : List Int} (h : Rf w q v O) : v.ownBlock ≠ some q := own_ne h.row h.box (by decide)
theorem Rf.keep {S : List Nat} {w w' : World} {q : Nat} {v : Value} {O : List Int} (h : Rf w q v O) (x : Ext S w w') (hq : q ∉ S) (hs : ∀ b ∈ S, v.ownBlock ≠ some b) : Rf w' q v O := ⟨x.keep h.box hq, own_keep h.row x hs⟩
theorem Rf.keep0 {w w' : World} {q : Nat} {v : Value} {O : List Int} (h : Rf w q v O) (x : Ext [] w w') : Rf w' q v O := h.keep x (by simp) (by simp)
theorem Rf.slice {w : World} {q : Nat} {v : Value} {O : List Int} (h : Rf w q v O) : ∃ a c, v = .slice a O.length c ∧ O.length ≤ c := own_slice h.row
theorem Rf.at_ {w : World} {q : Nat} {v : Value} {O : List Int} (h : Rf w q v O) (h0 : 0 < O.length) : ∃ g c, v = .slice (some ⟨g, 0, none⟩) O.length c ∧ g < w.heap.size ∧ w.frozen? ⟨g, 0, none⟩ = false ∧ (∀ i, w.frozen? ⟨g, i, none⟩ = false) ∧
    ∀ i, i < O.length → w.cell? ⟨g, i, none⟩ = some (.int .i64 (ofAt O i)) := by
  rcases h.row.2 with ⟨_, h2⟩ | ⟨g, cap, cur, h0, h1, h2, h3, h4, h5, h6⟩
  · omega
  · refine ⟨g, cap, h0, lt_of_heap h2, frozen_of_row w g 0 _ _ h2, fun i => frozen_of_row w g i _ _ h2, fun i hi => ?_⟩
    rw [cell_of_row w g _ _ _ _ h2]
    have : (cur.toList.take (O.length * 1))[i]? = cur[i]? := by
      rw [List.getElem?_take, if_pos (by omega)]; simp
    rw [← this, h6]
    simp [ofAt, List.getD, hi]
theorem Rf.set {w : World} {q g n c : Nat} {O : List Int} (h : Rf w q (.slice (some ⟨g, 0, none⟩) n c) O) (i : Nat) (x : Int) : Rf (w.setCell ⟨g, i, none⟩ (.int .i64 x)) q (.slice (some ⟨g, 0, none⟩) n c) (O.set i x) := by
  obtain ⟨_, _, hv, _⟩ := h.slice
  obtain rfl : n = O.length := by cases hv; rfl
  refine ⟨(Below.heap_setCell _ _ _ _ (fun e => h.ne (by simp [Value.ownBlock]; exact e.symm))).trans h.box, ?_⟩
  have := own_set h.row i (.int .i64 x)
  rw [List.length_set, List.map_set]
  exact this

theorem Rf.len {w : World} {q g n c : Nat} {O : List Int} (h : Rf w q (.slice (some ⟨g, 0, none⟩) n c) O) : n = O.length := by
  obtain ⟨_, _, hv, _⟩ := h.slice
  cases hv; rfl
theorem Rf.frz {w : World} {q g n c : Nat} {O : List Int} (h : Rf w q (.slice (some ⟨g, 0, none⟩) n c) O) (i : Nat) : w.frozen? ⟨g, i, none⟩ = false := by
  rcases h.row.2 with ⟨h0, _⟩ | ⟨g', cap, cur, h0, h1, h2, _⟩
  · cases h0
  · cases h0; exact frozen_of_row w g i _ _ h2
theorem Rf.cat {w : World} {q g n c : Nat} {O : List Int} (h : Rf w q (.slice (some ⟨g, 0, none⟩) n c) O) {i : Nat} (hi : i < n) : w.cell? ⟨g, i, none⟩ = some (.int .i64 (ofAt O i)) := by
  have hn := h.len
  obtain ⟨g', c', hv, _, _, _, hcs⟩ := h.at_ (by omega)
  cases hv
  exact hcs i (by omega)
theorem Rf.qne {w : World} {q g n c : Nat} {O : List Int} (h : Rf w q (.slice (some ⟨g, 0, none⟩) n c) O) : q ≠ g := fun e => h.ne (by simp [Value.ownBlock, e])

def RNewPost (w : World) (k : Nat) (e : Ending) (w' : World) : Prop :=
  ∃ q v, e = .returned (.tuple #[.pointer (some ⟨q, 0, none⟩), .int .i64 0]) ∧ Rf w' q v (List.replicate k 0) ∧ w.heap.size ≤ q ∧ (∀ g, v.ownBlock = some g → w.heap.size ≤ g) ∧ Ext [] w w'

theorem rnew_bad (k : Int) (w : World) (h : k < 0 ∨ 1024 < k) : Calls Try.prog 11 #[.int .i64 k] w fun e w' => e = .returned (.tuple #[.pointer none, .int .i64 2]) ∧ w' = w := by
  rcases h with h | h
  · go_enter Try.func11, Try.ntmps11
    go_wp2
    go_ret2
    exact ⟨rfl, rfl⟩
  · have h2 : ¬ k < 0 := by omega
    go_enter Try.func11, Try.ntmps11
    go_wp2
    go_ret2
    exact ⟨rfl, rfl⟩

theorem rnew_ok (k : Nat) (w : World) (h : k ≤ 1024) : Calls Try.prog 11 #[.int .i64 k] w (RNewPost w k) := by
  have hmk := run_make_row' (P := Try.prog) 55 3 (.int .i64 0) 8 Try.underlying55 info3 rfl .i64 .i64 k (by omega) (by omega) w
  go_enter Try.func11, Try.ntmps11
  go_wp2
  go_ret2
  refine ⟨w.heap.size + 1, .slice (some ⟨w.heap.size, 0, none⟩) k k, rfl, ⟨?_, ?_⟩, by omega, by simp [Value.ownBlock], (Ext.alloc [] _ _).trans (Ext.alloc [] _ _)⟩
  · exact heap_alloc2_new _ _ _
  · have hl := toList_madeCells_one (.int .i64 0) k
    refine ⟨by simp, .inr ⟨w.heap.size, k, madeCells #[.int .i64 0] k, by simp, Nat.zero_le _, heap_alloc2_old _ _ _, by simp, by simp only [maxLen]; omega, by simp [size_madeCells], ?_⟩⟩
    rw [hl]; simp

set_option maxRecDepth 100000 in
set_option maxHeartbeats 4000000 in
theorem rfree_any (q p : Nat) (v : Value) (O : List Int) (w : World) (hR : Rf w q v O) (hp : p < O.length) (hlen : O.length ≤ 1024) :
    Calls Try.prog 31 #[.pointer (some ⟨q, 0, none⟩), .int .i64 p] w fun e w' => (∃ k : Nat, e = .returned (.int .i64 k) ∧ ZR O p k) ∧ w' = w := by
  obtain ⟨g, c, rfl, hg, _, _, hcs⟩ := hR.at_ (by omega)
  have hc := hR.cell
  have HC := hid hcs
  clear hcs hR
  generalize hn : O.length = n at *
  have HN := hid hn
  clear hn
  go_enter Try.func31, Try.ntmps31
  go_wp2_with fail
  go_loopw [5] (fun x wr => ∃ k : Nat, x = .int .i64 k ∧ p + k ≤ n ∧ (∀ j, p ≤ j → j < p + k → ofAt O j = 0) ∧ wr = w) (fun x _ => (n - (intOf x)).toNat)
  case atStart => exact ⟨0, rfl, by omega, fun j h1 h2 => by omega, rfl⟩
  case round =>
    obtain ⟨k, rfl, hk, hz, rfl⟩ := hrel
    have HZ := hid hz
    clear hz
    by_cases hlt : p + k < n
    · have ck := HC.out (p + k) hlt
      have HX : Hid (ofAt O (p + k) = 0 → ∀ j, p ≤ j → j < p + (k + 1) → ofAt O j = 0) := fun h j h1 h2 => by
        by_cases e : j = p + k
        · rw [e]; exact h
        · exact HZ.out j h1 (by omega)
      have HY : Hid (ofAt O (p + k) ≠ 0 → ZR O p k) := fun h => ⟨by rw [HN.out]; exact hk, HZ.out, fun _ => h⟩
      generalize ofAt O (p + k) = y at *
      by_cases hy : y = 0
      · subst hy
        go_wp2_with fail
        go_roundw
        case rel => exact ⟨k + 1, by go_num, by omega, HX.out rfl, trivial⟩
        case measure => simp [intOf]; omega
      · have HYY := hid (HY.out hy)
        go_wp2_with fail
        go_ret
        exact ⟨⟨k, rfl, HYY.out⟩, rfl⟩
    · have HYY : Hid (ZR O p k) := ⟨by rw [HN.out]; exact hk, HZ.out, fun h => by rw [HN.out] at h; omega⟩
      go_wp2_with fail
      go_ret
      exact ⟨⟨k, rfl, HYY.out⟩, rfl⟩

end Go.Proofs.Ytkdgekdacinlhaa
