/-
  Copies of tables, which the statements make; no statement is proved here.
-/
import Derived.Test.YtfabhhmeanpmhaaDoorOwn
import Derived.Test.YtfabhhmeanpmhaaDoorFormed
namespace Go.Proofs.YtfabhhmeanpmhaaDoor
open Go.RowKit

/-- A type's cells. -/
def tyRow (t : Ty) (g : Option Addr × Nat) : List Value := [.int .i64 t.kind, .int .i64 t.elem, .int .i64 t.key, .int .i64 t.len, .slice g.1 t.fields.length g.2]
def rows (ts : List Ty) (G : Nat → Option Addr × Nat) : Nat → List Value
  | 0 => []
  | k + 1 => rows ts G k ++ tyRow (tyAt ts k) (G k)

theorem length_rows (ts : List Ty) (G : Nat → Option Addr × Nat) : ∀ k, (rows ts G k).length = k * 5
  | 0 => rfl
  | k + 1 => by rw [rows, List.length_append, length_rows ts G k]; simp [tyRow]; omega
theorem rows_cong {ts : List Ty} {G H : Nat → Option Addr × Nat} : ∀ k, (∀ i, i < k → G i = H i) → rows ts G k = rows ts H k
  | 0, _ => rfl
  | k + 1, h => by rw [rows, rows, rows_cong k (fun i hi => h i (by omega)), h k (by omega)]
theorem rows_get (ts : List Ty) (G : Nat → Option Addr × Nat) : ∀ (n i j : Nat), i < n → j < 5 → (rows ts G n)[i * 5 + j]? = (tyRow (tyAt ts i) (G i))[j]?
  | 0, _, _, h, _ => by omega
  | n + 1, i, j, h, hj => by
    rw [rows]
    by_cases e : i = n
    · subst e
      rw [List.getElem?_append_right (by rw [length_rows]; omega), length_rows]
      congr 1; omega
    · rw [List.getElem?_append_left (by rw [length_rows]; omega)]
      exact rows_get ts G n i j (by omega) hj

/-- Each type's fields in a row of its own. -/
def Fs (w0 w : World) (ts : List Ty) (G : Nat → Option Addr × Nat) (k : Nat) : Prop := ∀ i, i < k → w.ownsRow w0.heap.size 3 1 (.slice (G i).1 (tyAt ts i).fields.length (G i).2) (tyAt ts i).fields.length ((tyAt ts i).fields.map (Value.int .i64))

/-- A copy. -/
structure Cp (w0 w : World) (a : Option Addr) (n c : Nat) (ts : List Ty) (G : Nat → Option Addr × Nat) : Prop where
  own : w.ownsRow w0.heap.size 45 5 (.slice a n c) n (rows ts G n)
  fs : Fs w0 w ts G n

theorem Cp.tab {w0 w : World} {a : Option Addr} {n c : Nat} {ts : List Ty} {G : Nat → Option Addr × Nat} (h : Cp w0 w a n c ts G) (hn : ts.length = n) (hl : n ≤ 2513169434843) (hf : ∀ i, i < n → (tyAt ts i).fields.length ≤ 17592186044416) : Tab w a ts := by
  subst hn
  refine ⟨?_, hl⟩
  rcases h.own.2 with ⟨h1, h2⟩ | ⟨g, cap, cur, h0, h1, h2, h3, h4, h5, h6⟩
  · left; exact List.length_eq_zero_iff.1 h2
  · right
    cases h0
    refine ⟨g, 0, rfl, fun i hi => ⟨(G i).1, (G i).2, ?_⟩⟩
    have key : ∀ j v, j < 5 → (tyRow (tyAt ts i) (G i))[j]? = some v → w.cell? ⟨g, 0 + i * 5 + j, none⟩ = some v := fun j v hj hv => by
      rw [Nat.zero_add, cell_of_row w g _ _ _ _ h2]
      have : (cur.toList.take (ts.length * 5))[i * 5 + j]? = cur[i * 5 + j]? := by
        rw [List.getElem?_take, if_pos (by omega)]; simp
      rw [← this, h6, rows_get ts G _ i j hi hj, hv]
    exact ⟨key 0 _ (by omega) rfl, key 1 _ (by omega) rfl, key 2 _ (by omega) rfl, key 3 _ (by omega) rfl, key 4 _ (by omega) rfl, own_vs (h.fs i hi), hf i hi⟩

theorem Cp.keep0 {w0 w w' : World} {a : Option Addr} {n c : Nat} {ts : List Ty} {G : Nat → Option Addr × Nat} (h : Cp w0 w a n c ts G) (e : Ext [] w w') : Cp w0 w' a n c ts G :=
  ⟨own_keep0 h.own e, fun i hi => own_keep0 (h.fs i hi) e⟩

theorem own_at {w : World} {base : Nat} {e : TypeId} {s n : Nat} {v : Value} {xs : List Value} (h : w.ownsRow base e s v n xs) {q : Nat} (hq : v.ownBlock = some q) : ∃ cur, w.heap[q]? = some (.cells cur e (0, 0)) := by
  rcases h.2 with ⟨rfl, _⟩ | ⟨g, cap, cur, rfl, h1, h2, _⟩
  · simp [Value.ownBlock] at hq
  · simp [Value.ownBlock] at hq
    subst hq
    exact ⟨cur, h2⟩
theorem own_ne {w : World} {base : Nat} {e T : TypeId} {s n : Nat} {v : Value} {xs : List Value} {cs : Array Value} {q : Nat} (h : w.ownsRow base e s v n xs) (hq : w.heap[q]? = some (.cells cs T (0, 0))) (hne : T ≠ e) : v.ownBlock ≠ some q := fun hv => by
  obtain ⟨cur, h2⟩ := own_at h hv
  rw [h2] at hq
  simp only [Option.some.injEq, Obj.cells.injEq] at hq
  exact hne hq.2.1.symm
theorem own_apart {w : World} {base base' : Nat} {e e' : TypeId} {s s' n n' : Nat} {v v' : Value} {xs xs' : List Value} (h : w.ownsRow base e s v n xs) (h' : w.ownsRow base' e' s' v' n' xs') (hne : e' ≠ e) : ∀ q ∈ v'.ownBlock.toList, v.ownBlock ≠ some q := fun q hq => by
  obtain ⟨cur, h2⟩ := own_at h' (by simpa using hq)
  exact own_ne h h2 hne

def CopyPost (w : World) (ts : List Ty) (n : Nat) (e : Ending) (w' : World) : Prop :=
  ∃ a c G, e = .returned (.slice a n c) ∧ n ≤ c ∧ Cp w w' a n c ts G ∧ Tab w' a ts ∧ Ext [] w w'

theorem set5 {w : World} {q : Nat} {T : TypeId} {a b c d e e' : Value} (h : w.heap[q]? = some (.cells #[a, b, c, d, e] T (0, 0))) : (w.setCell ⟨q, 4, none⟩ e').heap[q]? = some (.cells #[a, b, c, d, e'] T (0, 0)) := by
  rw [heap_setCell_same w q 4 _ _ _ h]; rfl

set_option maxRecDepth 100000 in
set_option maxHeartbeats 2000000 in
theorem copy_any (a : Option Addr) (ts : List Ty) (n c : Nat) (w : World) (hT : Tab w a ts) (hn : ts.length = n) : Calls Tryd.prog 10 #[.slice a n c] w (CopyPost w ts n) := by
  have HT := hid hT
  have HN := hid hn
  have hl := hT.len
  rw [hn] at hl
  have HFL : Hid (∀ i, i < n → (tyAt ts i).fields.length ≤ 17592186044416) := fun i hi => by
    obtain ⟨b, o, _, h2⟩ := hT.addr (by omega)
    obtain ⟨fa, fc, h3⟩ := h2 i (by omega)
    exact h3.f.2
  clear hT hn
  go_enter Tryd.func10, Tryd.ntmps10
  go_wp2_with fail
  go_loopw [3, 4] (fun lv u wr => ∃ k : Nat, ∃ G, u = .int .i64 k ∧ k ≤ n ∧ wr.ownsRow w.heap.size 45 5 lv k (rows ts G k) ∧ Fs w wr ts G k ∧ Ext [] w wr) (fun _ u _ => (n - (intOf u)).toNat)
  case atStart => exact ⟨0, fun _ => (none, 0), rfl, Nat.zero_le _, own_nil _ _ _ _, fun i hi => by omega, Ext.refl _ _⟩
  case round =>
    obtain ⟨k, G, rfl, hkn, hO, hFs, hE⟩ := hrel
    have HO := hid hO
    have HFs := hid hFs
    have HE := hid hE
    clear hO hFs hE
    by_cases hlt : k < n
    · obtain ⟨b, o, rfl, hta⟩ := (HT.out.keep0 HE.out).addr (by rw [HN.out]; omega)
      obtain ⟨fa, fc, htt⟩ := hta k (by rw [HN.out]; omega)
      obtain ⟨c0, c1, c2, c3, c4, hfo⟩ := htt
      clear hta
      have hE1 := (Ext.alloc [] wr (.cells #[.int .i64 (tyAt ts k).kind, .int .i64 (tyAt ts k).elem, .int .i64 (tyAt ts k).key, .int .i64 (tyAt ts k).len, .slice fa (tyAt ts k).fields.length fc] 45)).trans (Ext.alloc [] _ (.cells #[] 3))
      have hb1 : ((wr.alloc (.cells #[.int .i64 (tyAt ts k).kind, .int .i64 (tyAt ts k).elem, .int .i64 (tyAt ts k).key, .int .i64 (tyAt ts k).len, .slice fa (tyAt ts k).fields.length fc] 45)).alloc (.cells #[] 3)).heap[wr.heap.size]? = some (.cells #[.int .i64 (tyAt ts k).kind, .int .i64 (tyAt ts k).elem, .int .i64 (tyAt ts k).key, .int .i64 (tyAt ts k).len, .slice fa (tyAt ts k).fields.length fc] 45 (0, 0)) :=
        (Ext.alloc [] _ _).keep (heap_alloc_new wr _) (by simp)
      have hw0 : ((wr.alloc (.cells #[.int .i64 (tyAt ts k).kind, .int .i64 (tyAt ts k).elem, .int .i64 (tyAt ts k).key, .int .i64 (tyAt ts k).len, .slice fa (tyAt ts k).fields.length fc] 45)).alloc (.cells #[] 3)).ownsRow w.heap.size 3 1 (.slice (some ⟨wr.heap.size + 1, 0, none⟩) 0 0) 0 [] := by
        have := World.ownsRow_lit (base := w.heap.size) (e := 3) (size := 1) (wr.alloc (.cells #[.int .i64 (tyAt ts k).kind, .int .i64 (tyAt ts k).elem, .int .i64 (tyAt ts k).key, .int .i64 (tyAt ts k).len, .slice fa (tyAt ts k).fields.length fc] 45)) #[] 0 (by have := HE.out.size; simp; omega) (by unfold maxLen; omega) rfl
        simpa using this
      obtain ⟨v1, w2, hr1, hO1, hE2, hX1⟩ := app_own w _ (HE.out.trans hE1) 42 42 3 _ 8 Tryd.underlying42 info3 rfl (by omega) _ 0 [] hw0 fa (tyAt ts k).fields.length fc ((tyAt ts k).fields.map (Value.int .i64)) (by simp) (hfo.1.keep0 hE1) (fun u hu => by obtain ⟨x, _, rfl⟩ := List.mem_map.1 hu; rfl) (by have := hfo.2; omega)
      simp only [Nat.zero_add, List.nil_append, Value.ownBlock, Option.toList_some] at hO1 hX1
      have hb2 := hX1.keep hb1 (by simp)
      have hlt1 : wr.heap.size + 1 < w2.heap.size + 1 := by have := hX1.size; simp at this; omega
      obtain ⟨a1, q1, rfl, _⟩ := own_slice hO1
      have HO1 := hid hO1
      have HE2 := hid hE2
      have HX : Hid (Ext [wr.heap.size, wr.heap.size + 1] wr w2) := (hE1.mono (by simp)).trans (hX1.mono (by simp))
      have e0 : w2.cell? ⟨wr.heap.size, 0, none⟩ = some (.int .i64 (tyAt ts k).kind) := by rw [cell_of_row _ _ _ _ _ _ hb2]; rfl
      have e1 : w2.cell? ⟨wr.heap.size, 1, none⟩ = some (.int .i64 (tyAt ts k).elem) := by rw [cell_of_row _ _ _ _ _ _ hb2]; rfl
      have e2 : w2.cell? ⟨wr.heap.size, 2, none⟩ = some (.int .i64 (tyAt ts k).key) := by rw [cell_of_row _ _ _ _ _ _ hb2]; rfl
      have e3 : w2.cell? ⟨wr.heap.size, 3, none⟩ = some (.int .i64 (tyAt ts k).len) := by rw [cell_of_row _ _ _ _ _ _ hb2]; rfl
      have e4 : w2.cell? ⟨wr.heap.size, 4, none⟩ = some (.slice fa (tyAt ts k).fields.length fc) := by rw [cell_of_row _ _ _ _ _ _ hb2]; rfl
      have ef : ∀ i, w2.frozen? ⟨wr.heap.size, i, none⟩ = false := fun i => frozen_of_row _ _ i _ _ hb2
      have hE3' := Ext.setCell [wr.heap.size] w2 ⟨wr.heap.size, 4, none⟩ (.slice a1 (tyAt ts k).fields.length q1) (by simp)
      have HNE := hid (own_ne hO1 hb2 (by decide))
      clear hb1 hb2 hO1 hE2 hX1 hw0 hE1 hfo hE3'
      have hE3 := (Ext.setCell [wr.heap.size] w2 ⟨wr.heap.size, 4, none⟩ (.slice a1 (tyAt ts k).fields.length q1) (by simp)).trans (Ext.alloc [wr.heap.size] _ (.cells #[.int .i64 (tyAt ts k).kind, .int .i64 (tyAt ts k).elem, .int .i64 (tyAt ts k).key, .int .i64 (tyAt ts k).len, .slice a1 (tyAt ts k).fields.length q1] 45))
      have hEw := HE2.out.on hE3 (by simp; exact HE.out.size)
      have holt := own_lt HO.out
      have hOw := own_keep (own_keep HO.out HX.out (by simp; exact ⟨fun h => by have := holt _ h; omega, fun h => by have := holt _ h; omega⟩)) hE3 (by simp; exact fun h => by have := holt _ h; omega)
      obtain ⟨v2, w4, hr2, hO2, hg2, _⟩ := run_append_own (P := Tryd.prog) _ w.heap.size 22 22 45 _ _ 5 56 Tryd.underlying22 (info_parts info45).choose_spec.1 (info_parts info45).choose_spec.2.1 (info_parts info45).choose_spec.2.2.1 (info_parts info45).choose_spec.2.2.2 rfl (by decide) _ k _ hOw ⟨w2.heap.size, 0, none⟩ 1 1 (tyRow (tyAt ts k) (a1, q1)) rfl (fun j u hu => by
        rw [Addr.add_lit, cell_of_row _ _ _ _ _ _ (show (World.alloc _ _).heap[w2.heap.size]? = _ from by have := heap_alloc_new (w2.setCell ⟨wr.heap.size, 4, none⟩ (.slice a1 (tyAt ts k).fields.length q1)) (.cells #[.int .i64 (tyAt ts k).kind, .int .i64 (tyAt ts k).elem, .int .i64 (tyAt ts k).key, .int .i64 (tyAt ts k).len, .slice a1 (tyAt ts k).fields.length q1] 45); simpa using this)]
        rw [Nat.zero_add, ← hu]; simp [tyRow]) (by simp [tyRow, Value.oneCell']) (by unfold maxLen; omega) (by omega) hEw.size
      have hX2 : Ext (Value.ownBlock u3).toList _ w4 := Ext.grown hg2 (by intro q hq; simp [hq])
      have HO2 := hid hO2
      have HE4 := hid (hEw.on hX2 (fun x hx => (holt x (by simpa using hx)).1))
      have HF4 : Hid (Fs w w4 ts (fun i => if i = k then (a1, q1) else G i) (k + 1)) := by
        intro i hi
        by_cases e : i = k
        · subst e
          simp only [if_true]
          have h3 := own_keep HO1.out hE3 (by simpa using HNE.out)
          exact own_keep h3 hX2 (own_apart h3 hOw (by decide))
        · simp only [e, if_false]
          have hf := HFs.out i (by omega)
          have hlt2 := own_lt hf
          have h3 := own_keep (own_keep hf HX.out (by simp; exact ⟨fun h => by have := hlt2 _ h; omega, fun h => by have := hlt2 _ h; omega⟩)) hE3 (by simp; exact fun h => by have := hlt2 _ h; omega)
          exact own_keep h3 hX2 (own_apart h3 hOw (by decide))
      have HRW : Hid (rows ts G k ++ tyRow (tyAt ts k) (a1, q1) = rows ts (fun i => if i = k then (a1, q1) else G i) (k + 1)) := by
        show _ = _
        rw [rows, rows_cong k (H := fun i => if i = k then (a1, q1) else G i) (fun i hi => by simp [Nat.ne_of_lt hi])]
        simp
      clear hEw hE3 hOw hX2 hO2 hg2 holt
      go_wp2_with (first | (at_builtin; refine wpList_append_run rfl _ _ 42 rfl _ _ _ rfl rfl hr1 ?_) | (at_builtin; refine wpList_append_run rfl _ _ 22 rfl _ _ _ rfl rfl hr2 ?_))
      go_roundw
      case rel => exact ⟨k + 1, fun i => if i = k then (a1, q1) else G i, by go_num, by omega, by rw [← HRW.out]; exact HO2.out, HF4.out, HE4.out⟩
      case measure => simp [intOf]; omega
    · obtain rfl : k = n := by omega
      obtain ⟨a', c', rfl, hac⟩ := own_slice HO.out
      go_wp2_with fail
      go_ret
      have hcp : Cp w wr a' k c' ts G := ⟨HO.out, HFs.out⟩
      exact ⟨a', c', G, rfl, hac, hcp, hcp.tab HN.out hl HFL.out, HE.out⟩

end Go.Proofs.YtfabhhmeanpmhaaDoor
