/-
  A slot that is taken or dropped, a new span, the pages that a span owns; no statement is proved here.
-/
import Derived.Test.YtlajjcboahflbaaDoorSpan
namespace Go.Proofs.YtlajjcboahflbaaDoor
open Go.RowKit

theorem scells_len (S : List Slot) : (scells S).length = S.length * 2 := by
  induction S with
  | nil => rfl
  | cons x S ih => simp [scells] at ih ⊢; omega
theorem scells_set (a b : Int) : ∀ (S : List Slot) (i : Nat), i < S.length → ((scells S).set (i * 2) (.int .i64 a)).set (i * 2 + 1) (.int .i64 b) = scells (S.set i (a, b))
  | [], i, h => by simp at h
  | x :: S, 0, _ => by simp [scells]
  | x :: S, i + 1, h => by
    have ih := scells_set a b S i (by simpa using h)
    have e : ∀ (y : Slot) (R : List Slot), scells (y :: R) = .int .i64 y.1 :: .int .i64 y.2 :: scells R := fun y R => by simp [scells]
    rw [List.set_cons_succ, e, e, ← ih, show (i + 1) * 2 = i * 2 + 2 by omega]
    simp [Nat.add_assoc]

theorem Sp.put {w : World} {s g : Nat} {start pages room used : Int} {S : List Slot} (h : Sp w s g start pages room used S) {i : Nat} (hi : i < S.length) (a b u : Int) :
    Sp (((w.setCell ⟨g, i * 2, none⟩ (.int .i64 a)).setCell ⟨g, i * 2 + 1, none⟩ (.int .i64 b)).setCell ⟨s, 3, none⟩ (.int .i64 u)) s g start pages room u (S.set i (a, b)) := by
  have hne : s ≠ g := by
    rintro rfl
    have := h.box.symm.trans h.row
    simp at this
  have r1 := heap_setCell_same w g (i * 2) _ _ (.int .i64 a) h.row
  have r2 := heap_setCell_same _ g (i * 2 + 1) _ _ (.int .i64 b) r1
  have b2 : ((w.setCell ⟨g, i * 2, none⟩ (.int .i64 a)).setCell ⟨g, i * 2 + 1, none⟩ (.int .i64 b)).heap[s]? = _ := ((Ext.setCell [g] w ⟨g, i * 2, none⟩ (.int .i64 a) (by simp)).trans (Ext.setCell [g] _ ⟨g, i * 2 + 1, none⟩ (.int .i64 b) (by simp))).keep h.box (by simpa using hne)
  have b3 := heap_setCell_same _ s 3 _ _ (.int .i64 u) b2
  refine ⟨?_, ?_⟩
  · rw [b3, List.length_set]; rfl
  · rw [(Ext.setCell [s] _ ⟨s, 3, none⟩ (.int .i64 u) (by simp)).keep r2 (by simpa using Ne.symm hne)]
    have := scells_set a b S i hi
    congr 2
    apply Array.toList_inj.1
    simpa using this

def TakePost (w : World) (s g : Nat) (start pages room used : Int) (S' : List Slot) (r : Value) (e : Ending) (w' : World) : Prop := e = .returned r ∧ Sp w' s g start pages room used S' ∧ Ext [s, g] w w'

set_option maxRecDepth 100000 in
set_option maxHeartbeats 2000000 in
theorem stake_any (s g : Nat) (start pages room used size tag : Int) (S : List Slot) (k : Nat) (w : World) (hS : Sp w s g start pages room used S) (hk : k < S.length) (hlen : S.length ≤ 65536) (hlo : ∀ j, j < k → 0 < (S.getD j (0, 0)).1) (hz : (S.getD k (0, 0)).1 = 0) (hu : 0 ≤ used ∧ used ≤ 65536) :
    Calls Tryd.prog 42 #[.pointer (some ⟨s, 0, none⟩), .int .i64 size, .int .i64 tag] w (TakePost w s g start pages room (used + 1) (S.set k (size, tag)) (.int .i64 k)) := by
  have HS := hid hS
  have HLO := hid hlo
  have hc4 := hS.c4
  have hc3 := hS.c3
  have hf := hS.fr
  have hfg := hS.fg
  have hne : s ≠ g := by
    rintro rfl
    have := hS.box.symm.trans hS.row
    simp at this
  have hw : IntKind.i64.wrap (used + 1) = used + 1 := by rw [IntKind.wrap_i64]; omega
  clear hS hlo
  go_enter Tryd.func42, Tryd.ntmps42
  go_wp2_with fail
  go_loopw [7] (fun q wr => ∃ i : Nat, q = .int .i64 i ∧ i ≤ k ∧ wr = w) (fun q _ => (k - (intOf q)).toNat)
  case atStart => exact ⟨0, rfl, Nat.zero_le _, rfl⟩
  case round =>
    obtain ⟨i, rfl, hik, rfl⟩ := hrel
    obtain ⟨a0, a1⟩ := HS.out.at_ (i := i) (by omega)
    have hil : (i : Int) < (S.length : Nat) := by omega
    have HL : Hid (S.length ≤ 65536) := hlen
    by_cases hlt : i < k
    · have hp := HLO.out i hlt
      generalize (S.getD i (0, 0)).1 = x at *
      generalize S.length = len at *
      go_wp2_with fail
      exact ⟨⟨i + 1, by go_num, by omega, trivial⟩, by simp [intOf]; omega⟩
    · obtain rfl : i = k := by omega
      have hF : Hid (TakePost wr s g start pages room (used + 1) (S.set i (size, tag)) (.int .i64 i) (.returned (.int .i64 i)) (((wr.setCell ⟨g, i * 2, none⟩ (.int .i64 size)).setCell ⟨g, i * 2 + 1, none⟩ (.int .i64 tag)).setCell ⟨s, 3, none⟩ (.int .i64 (used + 1)))) :=
        ⟨rfl, HS.out.put hk size tag (used + 1), ((Ext.setCell _ _ _ _ (by simp)).trans (Ext.setCell _ _ _ _ (by simp))).trans (Ext.setCell _ _ _ _ (by simp))⟩
      rw [hz] at a0
      generalize S.length = len at *
      go_wp2_with fail
      go_ret
      exact hF.out

theorem info115 : (Tryd.prog.info? 115).map (fun i => (i.zero, i.size, i.bytes)) = some (some (.agg #[.int .i64 0, .int .i64 0]), 2, 16) := by kernel_rfl

theorem getD_rep (n i : Nat) : ((List.replicate n ((0, 0) : Slot)).getD i (0, 0)) = (0, 0) := by
  rw [List.getD_eq_getElem?_getD, List.getElem?_replicate]; split <;> rfl
theorem made_slots (n : Nat) : madeCells (Value.agg #[.int .i64 0, .int .i64 0]).cells (n * 2) = (scells (List.replicate n (0, 0))).toArray := by
  have hl := scells_len (List.replicate n ((0, 0) : Slot))
  rw [List.length_replicate] at hl
  apply Array.ext_getElem?
  intro j
  have tA : ((scells (List.replicate n ((0, 0) : Slot))).toArray)[j]? = (scells (List.replicate n ((0, 0) : Slot)))[j]? := by simp
  rw [tA]
  by_cases hj : j < n * 2
  · have hd : j / 2 < (List.replicate n ((0, 0) : Slot)).length := by rw [List.length_replicate]; omega
    obtain ⟨g0, g1⟩ := scells_get (List.replicate n (0, 0)) (j / 2) hd
    rw [getD_rep] at g0 g1
    have hr : (scells (List.replicate n ((0, 0) : Slot)))[j]? = some (.int .i64 0) := by
      rcases (by omega : j = j / 2 * 2 ∨ j = j / 2 * 2 + 1) with h | h
      · rw [h]; exact g0
      · rw [h]; exact g1
    rw [hr]
    have e : j % 2 = 0 ∨ j % 2 = 1 := by omega
    simp only [madeCells, Value.cells]
    rcases e with e | e <;> simp [hj, e]
  · rw [Array.getElem?_eq_none (by rw [size_madeCells]; omega), List.getElem?_eq_none (by omega)]

def NewSpPost (w : World) (start pages room : Int) (n : Nat) (e : Ending) (w' : World) : Prop :=
  e = .returned (.pointer (some ⟨w.heap.size + 1, 0, none⟩)) ∧ Sp w' (w.heap.size + 1) w.heap.size start pages room 0 (List.replicate n (0, 0)) ∧ Ext [] w w'

set_option maxRecDepth 100000 in
theorem newSpan_any (start pages room : Int) (n : Nat) (w : World) (h1 : 0 ≤ pages ∧ pages ≤ 1024) (h2 : 1 ≤ room ∧ room ≤ 65536) (hn : pages * 256 / room = n) : Calls Tryd.prog 73 #[.int .i64 start, .int .i64 pages, .int .i64 room] w (NewSpPost w start pages room n) := by
  obtain ⟨i, hi, hz0, hz1, hz2⟩ := info_parts info115
  have hnb : n ≤ 262144 := by
    have : pages * 256 / room ≤ pages * 256 := Int.ediv_le_self _ (by omega)
    omega
  have hr := run_make (P := Tryd.prog) w 104 115 i _ Tryd.underlying104 hi hz0 .i64 .i64 n n (by omega) (Int.le_refl _) (by rw [hz2]; omega) (by omega)
  rw [hz1] at hr
  simp only [Int.toNat_natCast] at hr
  rw [made_slots n] at hr
  have e1 : IntKind.i64.wrap (pages * 256) = pages * 256 := by rw [IntKind.wrap_i64]; omega
  have e2 : ¬ room = 0 := by omega
  have e3 : Int.tdiv (pages * 256) room = n := by rw [Int.tdiv_eq_ediv_of_nonneg (by omega)]; exact hn
  have e4 : IntKind.i64.wrap (n : Int) = n := by rw [IntKind.wrap_i64]; omega
  clear hz0 hz1 hz2 hi i hn
  generalize hX : (scells (List.replicate n (0, 0))).toArray = X at hr
  have HX := hid hX
  clear hX
  go_enter Tryd.func73, Tryd.ntmps73
  go_wp2
  go_ret
  refine ⟨rfl, ⟨?_, ?_⟩, (Ext.alloc [] _ _).trans (Ext.alloc [] _ _)⟩
  · rw [List.length_replicate]
    exact heap_alloc2_new w _ _
  · rw [HX.out]
    exact heap_alloc2_old w _ _

/-- The pages' owners: pointers to spans. -/
def ocells (O : List (Option Nat)) : List Value := O.map fun x => .pointer (x.map fun s => ⟨s, 0, none⟩)
/-- The owners of a heap's pages: the third cell of block h names block g. -/
structure Ow (ox : Nat) (w : World) (h g : Nat) (O : List (Option Nat)) : Prop where
  box : ∃ cs T, w.heap[h]? = some (.cells cs T (0, 0)) ∧ T ≠ 85 ∧ cs[ox + 2]? = some (.slice (some ⟨g, 0, none⟩) O.length O.length)
  row : w.heap[g]? = some (.cells (ocells O).toArray 85 (0, 0))
theorem Ow.cell {ox : Nat} {w : World} {h g : Nat} {O : List (Option Nat)} (k : Ow ox w h g O) : w.cell? ⟨h, ox + 2, none⟩ = some (.slice (some ⟨g, 0, none⟩) O.length O.length) := by
  obtain ⟨cs, T, hb, _, hc⟩ := k.box
  rw [cell_of_row _ _ _ _ _ _ hb]; exact hc
theorem Ow.at_ {ox : Nat} {w : World} {h g : Nat} {O : List (Option Nat)} (k : Ow ox w h g O) {i : Nat} (hi : i < O.length) : w.cell? ⟨g, i, none⟩ = some (.pointer ((O.getD i none).map fun s => ⟨s, 0, none⟩)) := by
  rw [cell_of_row _ _ _ _ _ _ k.row]
  simp [ocells, hi]
theorem Ow.fg {ox : Nat} {w : World} {h g : Nat} {O : List (Option Nat)} (k : Ow ox w h g O) (i : Nat) : w.frozen? ⟨g, i, none⟩ = false := frozen_of_row _ _ _ _ _ k.row
theorem Ow.ne {ox : Nat} {w : World} {h g : Nat} {O : List (Option Nat)} (k : Ow ox w h g O) : h ≠ g := by
  rintro rfl
  obtain ⟨cs, T, hb, ht, _⟩ := k.box
  have := hb.symm.trans k.row
  simp only [Option.some.injEq, Obj.cells.injEq] at this
  exact ht this.2.1
theorem Ow.keep {ox : Nat} {E : List Nat} {w w' : World} {h g : Nat} {O : List (Option Nat)} (k : Ow ox w h g O) (e : Ext E w w') (hh : h ∉ E) (hg : g ∉ E) : Ow ox w' h g O := by
  obtain ⟨cs, T, hb, ht, hc⟩ := k.box
  exact ⟨⟨cs, T, e.keep hb hh, ht, hc⟩, e.keep k.row hg⟩
theorem Ow.set {ox : Nat} {w : World} {h g : Nat} {O : List (Option Nat)} (k : Ow ox w h g O) (i : Nat) (x : Option Nat) : Ow ox (w.setCell ⟨g, i, none⟩ (.pointer (x.map fun s => ⟨s, 0, none⟩))) h g (O.set i x) := by
  obtain ⟨cs, T, hb, ht, hc⟩ := k.box
  refine ⟨⟨cs, T, (Ext.setCell [g] w ⟨g, i, none⟩ _ (by simp)).keep hb (by simpa using k.ne), ht, by rw [List.length_set]; exact hc⟩, ?_⟩
  rw [heap_setCell_same w g i _ _ _ k.row]
  congr 2
  apply Array.toList_inj.1
  simp [ocells, List.map_set]

/-- The owners with n pages from start on made x's. -/
def ownL (O : List (Option Nat)) (start : Nat) (x : Option Nat) : Nat → List (Option Nat)
  | 0 => O
  | n + 1 => (ownL O start x n).set (start + n) x
theorem ownL_len (O : List (Option Nat)) (start : Nat) (x : Option Nat) : ∀ n, (ownL O start x n).length = O.length
  | 0 => rfl
  | n + 1 => by rw [ownL, List.length_set, ownL_len O start x n]

def OwPost (ox : Nat) (w : World) (h g : Nat) (O' : List (Option Nat)) (e : Ending) (w' : World) : Prop := e = .returned (.tuple #[]) ∧ Ow ox w' h g O' ∧ Ext [g] w w'

set_option maxRecDepth 100000 in
set_option maxHeartbeats 2000000 in
theorem own_any {ox : Nat} (h g s sg : Nat) (O : List (Option Nat)) (start pages : Nat) (room used : Int) (S : List Slot) (x : Option Nat) (w : World) (hO : Ow ox w h g O) (hS : Sp w s sg start pages room used S) (hsg : s ≠ g) (hfit : start + pages ≤ O.length) (hlen : O.length ≤ 1024) :
    Calls Tryd.prog 46 #[.pointer (some ⟨h, ox, none⟩), .pointer (some ⟨s, 0, none⟩), .pointer (x.map fun s => ⟨s, 0, none⟩)] w (OwPost ox w h g (ownL O start x pages)) := by
  have HO := hid hO
  have HS := hid hS
  have c1 := hS.c1
  have HL := hid hlen
  have hOc := hO.cell
  have hsc := hS.c0
  clear hO hS
  go_enter Tryd.func46, Tryd.ntmps46
  go_wp2_with fail
  go_loopw [11] (fun q wr => ∃ i : Nat, q = .int .i64 i ∧ i ≤ pages ∧ Ow ox wr h g (ownL O start x i) ∧ Ext [g] w wr) (fun q _ => (pages - (intOf q)).toNat)
  case atStart => exact ⟨0, rfl, Nat.zero_le _, HO.out, Ext.refl _ _⟩
  case round =>
    obtain ⟨i, rfl, hip, hOi, hE⟩ := hrel
    have HOi := hid hOi
    have HE := hid hE
    by_cases hlt : i < pages
    · have hlti : (i : Int) < pages := by omega
      obtain ⟨k, hk⟩ : ∃ k : Nat, k = start + i := ⟨_, rfl⟩
      have ek : IntKind.i64.wrap ((start : Int) + i) = (k : Nat) := by rw [IntKind.wrap_i64]; omega
      have HK := hid hk
      have hll := ownL_len O start x i
      have a0 := hOi.cell
      rw [hll] at a0
      have a1 := hOi.at_ (i := k) (by omega)
      have a2 := hOi.fg k
      have a3 := hE.cell hsc (by simpa using hsg)
      have b0 := (Ext.drew [] wr).cell a0 (by simp)
      have b1 := (Ext.drew [] wr).cell a1 (by simp)
      have b3 := (Ext.drew [] wr).cell a3 (by simp)
      have b2 : wr.drew.frozen? ⟨g, k, none⟩ = false := (hOi.keep (Ext.drew [] wr) (by simp) (by simp)).fg k
      have hkl : (k : Int) < (O.length : Nat) := by omega
      have HF : Hid (Ow ox (wr.setCell ⟨g, k, none⟩ (.pointer (x.map fun s => ⟨s, 0, none⟩))).drew h g (ownL O start x (i + 1)) ∧ Ext [g] w (wr.setCell ⟨g, k, none⟩ (.pointer (x.map fun s => ⟨s, 0, none⟩))).drew) := by
        refine ⟨?_, (hE.trans (Ext.setCell _ _ _ _ (by simp))).trans (Ext.drew _ _)⟩
        rw [ownL, ← hk]
        exact (hOi.set k x).keep (Ext.drew [] _) (by simp) (by simp)
      clear hOi hE hk hll
      generalize O.length = len at *
      generalize (x.map fun s => (⟨s, 0, none⟩ : Addr)) = xp at *
      go_wp2_with fail
      go_region_law (fail)
      all_goals
        go_wp2_with fail
        exact ⟨⟨i + 1, by go_num, by omega, HF.out.1, HF.out.2⟩, by simp [intOf]; omega⟩
    · obtain rfl : i = pages := by omega
      have hnl : ¬ ((i : Int) < i) := by omega
      clear hOi hE
      go_wp2_with fail
      go_end0
      exact ⟨rfl, HOi.out, HE.out⟩

end Go.Proofs.YtlajjcboahflbaaDoor
