/-
  SpanB, HMath, Nil, HMem, Spans, QuietR: joined by program; no statement is proved here.
-/
import Derived.Test.YtjbbomokgpoilaaGreatDoorZHA
import Derived.Test.YtjbbomokgpoilaaGreatDoorZRB
import Derived.Sort.QuietThIn
import Derived.Sort.BigQuietIn
import Derived.TacticsIn
/-
  A slot that is taken or dropped, a new span, the pages that a span owns; no statement is proved here.
-/
namespace Go.Proofs.YtjbbomokgpoilaaGreatDoor
open Go.RowKit

theorem scells_len (S : List Slot) : (scells S).length = S.length * 2 := by
  induction S with
  | nil => rfl
  | cons x S ih => simp [scells] at ih ⊢; omega
theorem scells_set (a b : Int) : ∀ (S : List Slot) (i : Nat), i < S.length → ((scells S).set (i * 2) (.int .i64 a)).set (i * 2 + 1) (.int .i64 b) = scells (S.set i (a, b))
  | [], i, h => by simp at h
  | x :: S, 0, _ => by simp [scells]
  | x :: S, i + 1, h => by
    have ih := scells_set a b S i (by simpa using h)
    have e : ∀ (y : Slot) (R : List Slot), scells (y :: R) = .int .i64 y.1 :: .int .i64 y.2 :: scells R := fun y R => by simp [scells]
    rw [List.set_cons_succ, e, e, ← ih, show (i + 1) * 2 = i * 2 + 2 by omega]
    simp [Nat.add_assoc]

theorem Sp.put {w : World} {s g : Nat} {start pages room used : Int} {S : List Slot} (h : Sp w s g start pages room used S) {i : Nat} (hi : i < S.length) (a b u : Int) :
    Sp (((w.setCell ⟨g, i * 2, none⟩ (.int .i64 a)).setCell ⟨g, i * 2 + 1, none⟩ (.int .i64 b)).setCell ⟨s, 3, none⟩ (.int .i64 u)) s g start pages room u (S.set i (a, b)) := by
  have hne : s ≠ g := by
    rintro rfl
    have := h.box.symm.trans h.row
    simp at this
  have r1 := heap_setCell_same w g (i * 2) _ _ (.int .i64 a) h.row
  have r2 := heap_setCell_same _ g (i * 2 + 1) _ _ (.int .i64 b) r1
  have b2 : ((w.setCell ⟨g, i * 2, none⟩ (.int .i64 a)).setCell ⟨g, i * 2 + 1, none⟩ (.int .i64 b)).heap[s]? = _ := ((Ext.setCell [g] w ⟨g, i * 2, none⟩ (.int .i64 a) (by simp)).trans (Ext.setCell [g] _ ⟨g, i * 2 + 1, none⟩ (.int .i64 b) (by simp))).keep h.box (by simpa using hne)
  have b3 := heap_setCell_same _ s 3 _ _ (.int .i64 u) b2
  refine ⟨?_, ?_⟩
  · rw [b3, List.length_set]; rfl
  · rw [(Ext.setCell [s] _ ⟨s, 3, none⟩ (.int .i64 u) (by simp)).keep r2 (by simpa using Ne.symm hne)]
    have := scells_set a b S i hi
    congr 2
    apply Array.toList_inj.1
    simpa using this

def TakePost (w : World) (s g : Nat) (start pages room used : Int) (S' : List Slot) (r : Value) (e : Ending) (w' : World) : Prop := e = .returned r ∧ Sp w' s g start pages room used S' ∧ Ext [s, g] w w'

set_option maxRecDepth 100000 in
set_option maxHeartbeats 2000000 in
theorem stake_any (s g : Nat) (start pages room used size tag : Int) (S : List Slot) (k : Nat) (w : World) (hS : Sp w s g start pages room used S) (hk : k < S.length) (hlen : S.length ≤ 65536) (hlo : ∀ j, j < k → 0 < (S.getD j (0, 0)).1) (hz : (S.getD k (0, 0)).1 = 0) (hu : 0 ≤ used ∧ used ≤ 65536) :
    Calls Tryz.prog 103 #[.pointer (some ⟨s, 0, none⟩), .int .i64 size, .int .i64 tag] w (TakePost w s g start pages room (used + 1) (S.set k (size, tag)) (.int .i64 k)) := by
  have HS := hid hS
  have HLO := hid hlo
  have hc4 := hS.c4
  have hc3 := hS.c3
  have hf := hS.fr
  have hfg := hS.fg
  have hne : s ≠ g := by
    rintro rfl
    have := hS.box.symm.trans hS.row
    simp at this
  have hw : IntKind.i64.wrap (used + 1) = used + 1 := by rw [IntKind.wrap_i64]; omega
  clear hS hlo
  go_enter Tryz.func103, Tryz.ntmps103
  go_wp2_with fail
  go_loopw [7] (fun q wr => ∃ i : Nat, q = .int .i64 i ∧ i ≤ k ∧ wr = w) (fun q _ => (k - (intOf q)).toNat)
  case atStart => exact ⟨0, rfl, Nat.zero_le _, rfl⟩
  case round =>
    obtain ⟨i, rfl, hik, rfl⟩ := hrel
    obtain ⟨a0, a1⟩ := HS.out.at_ (i := i) (by omega)
    have hil : (i : Int) < (S.length : Nat) := by omega
    have HL : Hid (S.length ≤ 65536) := hlen
    by_cases hlt : i < k
    · have hp := HLO.out i hlt
      generalize (S.getD i (0, 0)).1 = x at *
      generalize S.length = len at *
      go_wp2_with fail
      exact ⟨⟨i + 1, by go_num, by omega, trivial⟩, by simp [intOf]; omega⟩
    · obtain rfl : i = k := by omega
      have hF : Hid (TakePost wr s g start pages room (used + 1) (S.set i (size, tag)) (.int .i64 i) (.returned (.int .i64 i)) (((wr.setCell ⟨g, i * 2, none⟩ (.int .i64 size)).setCell ⟨g, i * 2 + 1, none⟩ (.int .i64 tag)).setCell ⟨s, 3, none⟩ (.int .i64 (used + 1)))) :=
        ⟨rfl, HS.out.put hk size tag (used + 1), ((Ext.setCell _ _ _ _ (by simp)).trans (Ext.setCell _ _ _ _ (by simp))).trans (Ext.setCell _ _ _ _ (by simp))⟩
      rw [hz] at a0
      generalize S.length = len at *
      go_wp2_with fail
      go_ret
      exact hF.out

theorem info143 : (Tryz.prog.info? 143).map (fun i => (i.zero, i.size, i.bytes)) = some (some (.agg #[.int .i64 0, .int .i64 0]), 2, 16) := by kernel_rfl

theorem getD_rep (n i : Nat) : ((List.replicate n ((0, 0) : Slot)).getD i (0, 0)) = (0, 0) := by
  rw [List.getD_eq_getElem?_getD, List.getElem?_replicate]; split <;> rfl
theorem made_slots (n : Nat) : madeCells (Value.agg #[.int .i64 0, .int .i64 0]).cells (n * 2) = (scells (List.replicate n (0, 0))).toArray := by
  have hl := scells_len (List.replicate n ((0, 0) : Slot))
  rw [List.length_replicate] at hl
  apply Array.ext_getElem?
  intro j
  have tA : ((scells (List.replicate n ((0, 0) : Slot))).toArray)[j]? = (scells (List.replicate n ((0, 0) : Slot)))[j]? := by simp
  rw [tA]
  by_cases hj : j < n * 2
  · have hd : j / 2 < (List.replicate n ((0, 0) : Slot)).length := by rw [List.length_replicate]; omega
    obtain ⟨g0, g1⟩ := scells_get (List.replicate n (0, 0)) (j / 2) hd
    rw [getD_rep] at g0 g1
    have hr : (scells (List.replicate n ((0, 0) : Slot)))[j]? = some (.int .i64 0) := by
      rcases (by omega : j = j / 2 * 2 ∨ j = j / 2 * 2 + 1) with h | h
      · rw [h]; exact g0
      · rw [h]; exact g1
    rw [hr]
    have e : j % 2 = 0 ∨ j % 2 = 1 := by omega
    simp only [madeCells, Value.cells]
    rcases e with e | e <;> simp [hj, e]
  · rw [Array.getElem?_eq_none (by rw [size_madeCells]; omega), List.getElem?_eq_none (by omega)]

def NewSpPost (w : World) (start pages room : Int) (n : Nat) (e : Ending) (w' : World) : Prop :=
  e = .returned (.pointer (some ⟨w.heap.size + 1, 0, none⟩)) ∧ Sp w' (w.heap.size + 1) w.heap.size start pages room 0 (List.replicate n (0, 0)) ∧ Ext [] w w'

set_option maxRecDepth 100000 in
theorem newSpan_any (start pages room : Int) (n : Nat) (w : World) (h1 : 0 ≤ pages ∧ pages ≤ 1024) (h2 : 1 ≤ room ∧ room ≤ 65536) (hn : pages * 256 / room = n) : Calls Tryz.prog 125 #[.int .i64 start, .int .i64 pages, .int .i64 room] w (NewSpPost w start pages room n) := by
  obtain ⟨i, hi, hz0, hz1, hz2⟩ := info_parts info143
  have hnb : n ≤ 262144 := by
    have : pages * 256 / room ≤ pages * 256 := Int.ediv_le_self _ (by omega)
    omega
  have hr := run_make (P := Tryz.prog) w 139 143 i _ Tryz.underlying139 hi hz0 .i64 .i64 n n (by omega) (Int.le_refl _) (by rw [hz2]; omega) (by omega)
  rw [hz1] at hr
  simp only [Int.toNat_natCast] at hr
  rw [made_slots n] at hr
  have e1 : IntKind.i64.wrap (pages * 256) = pages * 256 := by rw [IntKind.wrap_i64]; omega
  have e2 : ¬ room = 0 := by omega
  have e3 : Int.tdiv (pages * 256) room = n := by rw [Int.tdiv_eq_ediv_of_nonneg (by omega)]; exact hn
  have e4 : IntKind.i64.wrap (n : Int) = n := by rw [IntKind.wrap_i64]; omega
  clear hz0 hz1 hz2 hi i hn
  generalize hX : (scells (List.replicate n (0, 0))).toArray = X at hr
  have HX := hid hX
  clear hX
  go_enter Tryz.func125, Tryz.ntmps125
  go_wp2
  go_ret
  refine ⟨rfl, ⟨?_, ?_⟩, (Ext.alloc [] _ _).trans (Ext.alloc [] _ _)⟩
  · rw [List.length_replicate]
    exact heap_alloc2_new w _ _
  · rw [HX.out]
    exact heap_alloc2_old w _ _

/-- The pages' owners: pointers to spans. -/
def ocells (O : List (Option Nat)) : List Value := O.map fun x => .pointer (x.map fun s => ⟨s, 0, none⟩)
/-- The owners of a heap's pages: the third cell of block h names block g. -/
structure Ow (ox : Nat) (w : World) (h g : Nat) (O : List (Option Nat)) : Prop where
  box : ∃ cs T, w.heap[h]? = some (.cells cs T (0, 0)) ∧ T ≠ 128 ∧ cs[ox + 2]? = some (.slice (some ⟨g, 0, none⟩) O.length O.length)
  row : w.heap[g]? = some (.cells (ocells O).toArray 128 (0, 0))
theorem Ow.cell {ox : Nat} {w : World} {h g : Nat} {O : List (Option Nat)} (k : Ow ox w h g O) : w.cell? ⟨h, ox + 2, none⟩ = some (.slice (some ⟨g, 0, none⟩) O.length O.length) := by
  obtain ⟨cs, T, hb, _, hc⟩ := k.box
  rw [cell_of_row _ _ _ _ _ _ hb]; exact hc
theorem Ow.at_ {ox : Nat} {w : World} {h g : Nat} {O : List (Option Nat)} (k : Ow ox w h g O) {i : Nat} (hi : i < O.length) : w.cell? ⟨g, i, none⟩ = some (.pointer ((O.getD i none).map fun s => ⟨s, 0, none⟩)) := by
  rw [cell_of_row _ _ _ _ _ _ k.row]
  simp [ocells, hi]
theorem Ow.fg {ox : Nat} {w : World} {h g : Nat} {O : List (Option Nat)} (k : Ow ox w h g O) (i : Nat) : w.frozen? ⟨g, i, none⟩ = false := frozen_of_row _ _ _ _ _ k.row
theorem Ow.ne {ox : Nat} {w : World} {h g : Nat} {O : List (Option Nat)} (k : Ow ox w h g O) : h ≠ g := by
  rintro rfl
  obtain ⟨cs, T, hb, ht, _⟩ := k.box
  have := hb.symm.trans k.row
  simp only [Option.some.injEq, Obj.cells.injEq] at this
  exact ht this.2.1
theorem Ow.keep {ox : Nat} {E : List Nat} {w w' : World} {h g : Nat} {O : List (Option Nat)} (k : Ow ox w h g O) (e : Ext E w w') (hh : h ∉ E) (hg : g ∉ E) : Ow ox w' h g O := by
  obtain ⟨cs, T, hb, ht, hc⟩ := k.box
  exact ⟨⟨cs, T, e.keep hb hh, ht, hc⟩, e.keep k.row hg⟩
theorem Ow.set {ox : Nat} {w : World} {h g : Nat} {O : List (Option Nat)} (k : Ow ox w h g O) (i : Nat) (x : Option Nat) : Ow ox (w.setCell ⟨g, i, none⟩ (.pointer (x.map fun s => ⟨s, 0, none⟩))) h g (O.set i x) := by
  obtain ⟨cs, T, hb, ht, hc⟩ := k.box
  refine ⟨⟨cs, T, (Ext.setCell [g] w ⟨g, i, none⟩ _ (by simp)).keep hb (by simpa using k.ne), ht, by rw [List.length_set]; exact hc⟩, ?_⟩
  rw [heap_setCell_same w g i _ _ _ k.row]
  congr 2
  apply Array.toList_inj.1
  simp [ocells, List.map_set]

/-- The owners with n pages from start on made x's. -/
def ownL (O : List (Option Nat)) (start : Nat) (x : Option Nat) : Nat → List (Option Nat)
  | 0 => O
  | n + 1 => (ownL O start x n).set (start + n) x
theorem ownL_len (O : List (Option Nat)) (start : Nat) (x : Option Nat) : ∀ n, (ownL O start x n).length = O.length
  | 0 => rfl
  | n + 1 => by rw [ownL, List.length_set, ownL_len O start x n]

def OwPost (ox : Nat) (w : World) (h g : Nat) (O' : List (Option Nat)) (e : Ending) (w' : World) : Prop := e = .returned (.tuple #[]) ∧ Ow ox w' h g O' ∧ Ext [g] w w'

set_option maxRecDepth 100000 in
set_option maxHeartbeats 2000000 in
theorem own_any {ox : Nat} (h g s sg : Nat) (O : List (Option Nat)) (start pages : Nat) (room used : Int) (S : List Slot) (x : Option Nat) (w : World) (hO : Ow ox w h g O) (hS : Sp w s sg start pages room used S) (hsg : s ≠ g) (hfit : start + pages ≤ O.length) (hlen : O.length ≤ 1024) :
    Calls Tryz.prog 117 #[.pointer (some ⟨h, ox, none⟩), .pointer (some ⟨s, 0, none⟩), .pointer (x.map fun s => ⟨s, 0, none⟩)] w (OwPost ox w h g (ownL O start x pages)) := by
  have HO := hid hO
  have HS := hid hS
  have c1 := hS.c1
  have HL := hid hlen
  have hOc := hO.cell
  have hsc := hS.c0
  clear hO hS
  go_enter Tryz.func117, Tryz.ntmps117
  go_wp2_with fail
  go_loopw [11] (fun q wr => ∃ i : Nat, q = .int .i64 i ∧ i ≤ pages ∧ Ow ox wr h g (ownL O start x i) ∧ Ext [g] w wr) (fun q _ => (pages - (intOf q)).toNat)
  case atStart => exact ⟨0, rfl, Nat.zero_le _, HO.out, Ext.refl _ _⟩
  case round =>
    obtain ⟨i, rfl, hip, hOi, hE⟩ := hrel
    have HOi := hid hOi
    have HE := hid hE
    by_cases hlt : i < pages
    · have hlti : (i : Int) < pages := by omega
      obtain ⟨k, hk⟩ : ∃ k : Nat, k = start + i := ⟨_, rfl⟩
      have ek : IntKind.i64.wrap ((start : Int) + i) = (k : Nat) := by rw [IntKind.wrap_i64]; omega
      have HK := hid hk
      have hll := ownL_len O start x i
      have a0 := hOi.cell
      rw [hll] at a0
      have a1 := hOi.at_ (i := k) (by omega)
      have a2 := hOi.fg k
      have a3 := hE.cell hsc (by simpa using hsg)
      have b0 := (Ext.drew [] wr).cell a0 (by simp)
      have b1 := (Ext.drew [] wr).cell a1 (by simp)
      have b3 := (Ext.drew [] wr).cell a3 (by simp)
      have b2 : wr.drew.frozen? ⟨g, k, none⟩ = false := (hOi.keep (Ext.drew [] wr) (by simp) (by simp)).fg k
      have hkl : (k : Int) < (O.length : Nat) := by omega
      have HF : Hid (Ow ox (wr.setCell ⟨g, k, none⟩ (.pointer (x.map fun s => ⟨s, 0, none⟩))).drew h g (ownL O start x (i + 1)) ∧ Ext [g] w (wr.setCell ⟨g, k, none⟩ (.pointer (x.map fun s => ⟨s, 0, none⟩))).drew) := by
        refine ⟨?_, (hE.trans (Ext.setCell _ _ _ _ (by simp))).trans (Ext.drew _ _)⟩
        rw [ownL, ← hk]
        exact (hOi.set k x).keep (Ext.drew [] _) (by simp) (by simp)
      clear hOi hE hk hll
      generalize O.length = len at *
      generalize (x.map fun s => (⟨s, 0, none⟩ : Addr)) = xp at *
      go_wp2_with fail
      go_region_law (fail)
      all_goals
        go_wp2_with fail
        exact ⟨⟨i + 1, by go_num, by omega, HF.out.1, HF.out.2⟩, by simp [intOf]; omega⟩
    · obtain rfl : i = pages := by omega
      have hnl : ¬ ((i : Int) < i) := by omega
      clear hOi hE
      go_wp2_with fail
      go_end0
      exact ⟨rfl, HOi.out, HE.out⟩

end Go.Proofs.YtjbbomokgpoilaaGreatDoor

/-
  Heaps as plain data: runs of pages, spans with slots, bytes; no statement is proved here.
-/
namespace Go.Proofs.YtjbbomokgpoilaaGreatDoor

/-! ### used runs -/

def used (R : List Rn) : List Rn := R.filter (·.u)
theorem used_append (A B : List Rn) : used (A ++ B) = used A ++ used B := by simp [used]
theorem used_cons_t {x : Rn} (B : List Rn) (h : x.u = true) : used (x :: B) = x :: used B := by simp [used, h]
theorem used_cons_f {x : Rn} (B : List Rn) (h : x.u = false) : used (x :: B) = used B := by simp [used, h]
theorem used_take {A B : List Rn} {x : Rn} {n : Nat} (_hu : x.u = false) : used (takeL (A ++ (x :: B)) A.length n) = used A ++ (⟨x.s, n, true⟩ :: used B) := by
  rw [takeL_eq, used_append, used_cons_t _ rfl, used_append]
  split
  · rw [used_cons_f _ rfl]; simp [used]
  · simp [used]
theorem used_rel {L : List Rn} {i : Nat} (hi : i < L.length) : used (relL L i) = used (L.take i) ++ used (L.drop (i + 1)) := by
  have e1 : used (L.take (relF L i)) = used (L.take i) := by
    by_cases hc : 0 < i ∧ (rnAt L (i - 1)).u = false
    · have e : relF L i = i - 1 := by unfold relF; rw [if_pos hc]
      obtain ⟨k, rfl⟩ : ∃ k, i = k + 1 := ⟨i - 1, by omega⟩
      rw [e, Nat.add_sub_cancel, List.take_add_one, rnAt_get (by omega), used_append]
      have : (rnAt L k).u = false := by simpa using hc.2
      simp [used, this]
    · have e : relF L i = i := by unfold relF; rw [if_neg hc]
      rw [e]
  have e2 : used (L.drop (relE L i)) = used (L.drop (i + 1)) := by
    by_cases hc : i + 1 < L.length ∧ (rnAt L (i + 1)).u = false
    · have e : relE L i = i + 1 + 1 := by unfold relE; rw [if_pos hc]
      have h1 : L.drop (i + 1) = rnAt L (i + 1) :: L.drop (i + 1 + 1) := by
        rw [List.drop_eq_getElem_cons hc.1]; simp [rnAt, List.getD, hc.1]
      rw [e, h1, used_cons_f _ hc.2]
    · have e : relE L i = i + 1 := by unfold relE; rw [if_neg hc]
      rw [e]
  unfold relL relJ
  rw [used_append, used_append, e1, e2, used_cons_f _ rfl]
  simp [used]

theorem used_sorted {pf : Bool} {a : Nat} {L : List Rn} (h : Tl pf a L) : (used L).Pairwise (fun x y => x.s + x.n ≤ y.s) := by
  induction L generalizing pf a with
  | nil => simp [used]
  | cons r L ih =>
    have h2 := ih h.2.2.2
    cases hu : r.u
    · rw [used_cons_f _ hu]; exact h2
    · rw [used_cons_t _ hu, List.pairwise_cons]
      refine ⟨fun y hy => ?_, h2⟩
      have := mem_endAt h.2.2.2 y (List.mem_filter.1 hy).1
      have := h.1
      omega

/-! ### spans -/

structure Spn where
  st : Nat
  n : Nat
  rm : Nat
  S : List Slot
deriving Inhabited

def us (S : List Slot) : Nat := S.countP (fun y => decide (0 < y.1))
def Spn.run (x : Spn) : Rn := ⟨x.st, x.n, true⟩
/-- Where slot j begins. -/
def adr (x : Spn) (j : Nat) : Nat := (x.st + 1) * 256 + j * x.rm
structure Spn.Ok (x : Spn) : Prop where
  n1 : 1 ≤ x.n
  rm8 : x.rm % 8 = 0
  rm1 : 8 ≤ x.rm
  rm2 : x.rm ≤ 65536
  kd : (x.rm ≤ 128 ∧ x.n = 1 ∧ ∃ c, c < 8 ∧ (x.rm : Int) = sz c) ∨ x.rm = x.n * 256
  len : x.S.length = x.n * 256 / x.rm
  sz : ∀ y ∈ x.S, 0 ≤ y.1 ∧ y.1 ≤ x.rm
  tg : ∀ y ∈ x.S, 0 ≤ y.2 ∧ y.2 ≤ 2147483647
  us : 1 ≤ us x.S

theorem Spn.Ok.fit {x : Spn} (h : x.Ok) : x.S.length * x.rm ≤ x.n * 256 := by rw [h.len]; exact Nat.div_mul_le_self _ _
theorem Spn.Ok.slot {x : Spn} (h : x.Ok) {j : Nat} (hj : j < x.S.length) : (j + 1) * x.rm ≤ x.n * 256 := Nat.le_trans (Nat.mul_le_mul_right _ (by omega)) h.fit
theorem Spn.Ok.len1 {x : Spn} (h : x.Ok) : 1 ≤ x.S.length := by
  have := h.us
  have h2 : Go.Proofs.YtjbbomokgpoilaaGreatDoor.us x.S ≤ x.S.length := List.countP_le_length
  omega
theorem Spn.Ok.len2 {x : Spn} (h : x.Ok) (hn : x.n ≤ 1024) : x.S.length ≤ 65536 := by
  have h1 := h.fit
  have h2 : x.S.length * 8 ≤ x.S.length * x.rm := Nat.mul_le_mul_left _ h.rm1
  omega

/-! ### heaps -/

structure Hs where
  P : Nat
  R : List Rn
  sp : List Spn
  B : List Int

structure Hv (H : Hs) : Prop where
  inv : Inv H.P H.R
  run : H.sp.map Spn.run = used H.R
  ok : ∀ x ∈ H.sp, x.Ok
  bl : H.B.length = (H.P + 1) * 256
  bt : Bts H.B

theorem Hv.le {H : Hs} (h : Hv H) {x : Spn} (hx : x ∈ H.sp) : x.st + x.n ≤ H.P := by
  have h1 : x.run ∈ used H.R := by rw [← h.run]; exact List.mem_map_of_mem hx
  exact (h.inv.mem _ (List.mem_filter.1 h1).1).2
theorem Hv.sorted {H : Hs} (h : Hv H) : H.sp.Pairwise (fun x y => x.st + x.n ≤ y.st) := by
  have := used_sorted h.inv.tl
  rw [← h.run, List.pairwise_map] at this
  exact this
theorem Hv.P1 {H : Hs} (h : Hv H) : H.P ≤ 1024 := h.inv.le
theorem Hv.splen {H : Hs} (h : Hv H) : H.sp.length ≤ H.P := by
  have h1 : H.sp.length = (used H.R).length := by rw [← h.run]; simp
  have h2 : (used H.R).length ≤ H.R.length := List.length_filter_le _ _
  have := h.inv.len
  omega

/-- Two spans that share a page are one. -/
theorem Hv.same {H : Hs} (h : Hv H) {k l : Nat} {x y : Spn} (hx : H.sp[k]? = some x) (hy : H.sp[l]? = some y) {i : Nat} (h1 : x.st ≤ i ∧ i < x.st + x.n) (h2 : y.st ≤ i ∧ i < y.st + y.n) : k = l := by
  have hs := List.pairwise_iff_getElem.1 h.sorted
  obtain ⟨hk, rfl⟩ := List.getElem?_eq_some_iff.1 hx
  obtain ⟨hl, rfl⟩ := List.getElem?_eq_some_iff.1 hy
  rcases Nat.lt_trichotomy k l with q | q | q
  · have := hs k l hk hl q; omega
  · exact q
  · have := hs l k hl hk q; omega

/-- The span that has a page. -/
def spanAt (L : List Spn) (i : Nat) : Option Spn := L.find? fun x => decide (x.st ≤ i) && decide (i < x.st + x.n)
theorem spanAt_some {L : List Spn} {i : Nat} {x : Spn} (h : spanAt L i = some x) : x ∈ L ∧ x.st ≤ i ∧ i < x.st + x.n := by
  have h1 := List.mem_of_find?_eq_some h
  have h2 := List.find?_some h
  simp at h2
  exact ⟨h1, h2⟩
theorem Hv.spanAt {H : Hs} (h : Hv H) {x : Spn} (hx : x ∈ H.sp) {i : Nat} (h1 : x.st ≤ i) (h2 : i < x.st + x.n) : spanAt H.sp i = some x := by
  cases hq : Go.Proofs.YtjbbomokgpoilaaGreatDoor.spanAt H.sp i with
  | none =>
    have := List.find?_eq_none.1 hq x hx
    simp at this; omega
  | some y =>
    obtain ⟨hy, h3⟩ := spanAt_some hq
    obtain ⟨k, hk⟩ := List.getElem?_of_mem hx
    obtain ⟨l, hl⟩ := List.getElem?_of_mem hy
    have := h.same hk hl ⟨h1, h2⟩ h3
    subst this
    rw [hk] at hl; cases hl; rfl

/-! ### which object has an address -/

/-- Slot j of span k holds an object of which a is a byte. -/
def At (H : Hs) (k j : Nat) (a : Int) : Prop := ∃ x y, H.sp[k]? = some x ∧ x.S[j]? = some y ∧ (adr x j : Int) ≤ a ∧ a < adr x j + y.1

/-- The plain facts of a byte of an object: its page and its slot. -/
theorem Hv.at_ {H : Hs} (h : Hv H) {k j : Nat} {a : Int} {x : Spn} {y : Slot} (hx : H.sp[k]? = some x) (hy : x.S[j]? = some y) (h1 : (adr x j : Int) ≤ a) (h2 : a < adr x j + y.1) :
    256 ≤ a ∧ a < ((H.P : Int) + 1) * 256 ∧ (∃ i : Nat, (a - 256) / 256 = i ∧ x.st ≤ i ∧ i < x.st + x.n ∧ i < H.P) ∧ (a - ((x.st : Int) + 1) * 256) / x.rm = j ∧ ((x.st : Int) + 1) * 256 ≤ a := by
  have hm : x ∈ H.sp := List.mem_of_getElem? hx
  have ho := h.ok x hm
  have hj : j < x.S.length := (List.getElem?_eq_some_iff.1 hy).1
  have hs := ho.slot hj
  have hyr := (ho.sz y (List.mem_of_getElem? hy)).2
  have hle := h.le hm
  have h8 := ho.rm1
  rw [Nat.add_mul, Nat.one_mul] at hs
  unfold adr at h1 h2
  obtain ⟨q, hq⟩ : ∃ q, q = j * x.rm := ⟨_, rfl⟩
  have hdiv : (a - ((x.st : Int) + 1) * 256) / x.rm = j := by
    rw [Int.ediv_eq_iff_of_pos (by omega)]
    have e1 : ((j : Int)) * (x.rm : Int) = (q : Nat) := by rw [hq]; simp
    constructor
    · rw [e1]; rw [← hq] at h1 h2; omega
    · rw [Int.add_mul, Int.one_mul, e1]; rw [← hq] at h1 h2; omega
  rw [← hq] at h1 h2 hs
  refine ⟨by omega, by omega, ⟨((a - 256) / 256).toNat, by omega, by omega, by omega, by omega⟩, hdiv, by omega⟩

theorem Hv.at_one {H : Hs} (h : Hv H) {k j k' j' : Nat} {a : Int} (h1 : At H k j a) (h2 : At H k' j' a) : k = k' ∧ j = j' := by
  obtain ⟨x, y, hx, hy, p1, p2⟩ := h1
  obtain ⟨x', y', hx', hy', q1, q2⟩ := h2
  obtain ⟨_, _, ⟨i, hi, i1, i2, _⟩, hj, _⟩ := h.at_ hx hy p1 p2
  obtain ⟨_, _, ⟨i', hi', i1', i2', _⟩, hj', _⟩ := h.at_ hx' hy' q1 q2
  obtain rfl : i = i' := by omega
  obtain rfl := h.same hx hx' ⟨i1, i2⟩ ⟨i1', i2'⟩
  rw [hx] at hx'; cases hx'
  exact ⟨rfl, by omega⟩

def fndS (x : Spn) (k : Nat) (a : Int) : Option (Nat × Nat) := (List.range x.S.length).findSome? fun j => match x.S[j]? with
  | none => none
  | some y => if (adr x j : Int) ≤ a ∧ a < adr x j + y.1 then some (k, j) else none
/-- The slot of the object of which a is a byte. -/
def fnd (H : Hs) (a : Int) : Option (Nat × Nat) := (List.range H.sp.length).findSome? fun k => match H.sp[k]? with
  | none => none
  | some x => fndS x k a
theorem fnd_hit {H : Hs} {k j : Nat} {a : Int} (h : fnd H a = some (k, j)) : At H k j a := by
  unfold fnd at h
  obtain ⟨k1, _, h1⟩ := List.exists_of_findSome?_eq_some h
  split at h1
  · cases h1
  · rename_i x hx
    unfold fndS at h1
    obtain ⟨j1, _, h2⟩ := List.exists_of_findSome?_eq_some h1
    split at h2
    · cases h2
    · rename_i y hy
      split at h2
      · rename_i hc
        simp only [Option.some.injEq, Prod.mk.injEq] at h2
        obtain ⟨rfl, rfl⟩ := h2
        exact ⟨x, y, hx, hy, hc.1, hc.2⟩
      · cases h2
theorem fnd_none {H : Hs} {a : Int} : fnd H a = none ↔ ∀ k j, ¬ At H k j a := by
  constructor
  · rintro h k j ⟨x, y, hx, hy, h1, h2⟩
    unfold fnd at h
    rw [List.findSome?_eq_none_iff] at h
    have h3 := h k (List.mem_range.2 (List.getElem?_eq_some_iff.1 hx).1)
    rw [hx] at h3
    simp only at h3
    unfold fndS at h3
    rw [List.findSome?_eq_none_iff] at h3
    have h4 := h3 j (List.mem_range.2 (List.getElem?_eq_some_iff.1 hy).1)
    rw [hy] at h4
    simp only at h4
    rw [if_pos ⟨h1, h2⟩] at h4
    cases h4
  · intro h
    cases hq : fnd H a with
    | none => rfl
    | some q => exact absurd (fnd_hit (k := q.1) (j := q.2) hq) (h _ _)
theorem Hv.fnd_iff {H : Hs} (h : Hv H) {k j : Nat} {a : Int} : fnd H a = some (k, j) ↔ At H k j a := by
  constructor
  · exact fnd_hit
  · intro e
    cases hq : fnd H a with
    | none => exact absurd e (fnd_none.1 hq k j)
    | some q =>
      obtain ⟨h1, h2⟩ := h.at_one (fnd_hit (k := q.1) (j := q.2) hq) e
      rw [show q = (k, j) from Prod.ext h1 h2]

end Go.Proofs.YtjbbomokgpoilaaGreatDoor

/-
  The calls of a nil heap that give no iterator; no statement is proved here.
-/
namespace Go.Proofs.YtjbbomokgpoilaaGreatDoor
open Go.RowKit

theorem halloc_nil (s t : Int) (w : World) (hG : Gl w) : Calls Tryz.prog 69 #[.pointer none, .int .i64 s, .int .i64 t] w fun e w' => e = .returned (.tuple #[.int .i64 0, .int .i64 2]) ∧ w' = w := by
  have K := room_any s w hG
  generalize rmV s = rv at *
  generalize pgE s = pe at *
  go_enter Tryz.func69, Tryz.ntmps69
  go_wp2_with (first | (go_at_call 90; refine met K ?_) | fail "no arm")
  all_goals
    go_ret2
    exact ⟨rfl, rfl⟩

theorem within_nil (a n : Int) (w : World) : Calls Tryz.prog 70 #[.pointer none, .int .i64 a, .int .i64 n] w fun e w' => e = .returned (.int .i64 2) ∧ w' = w := by
  go_enter Tryz.func70, Tryz.ntmps70
  go_wp2
  go_ret
  exact ⟨rfl, rfl⟩

theorem hfree_nil (a : Int) (w : World) : Calls Tryz.prog 89 #[.pointer none, .int .i64 a] w fun e w' => e = .returned (.int .i64 2) ∧ w' = w := by
  go_enter Tryz.func89, Tryz.ntmps89
  go_wp2
  go_ret
  exact ⟨rfl, rfl⟩

theorem hload_nil (a : Int) (w : World) : Calls Tryz.prog 39 #[.pointer none, .int .i64 a] w fun e w' => e = .returned (.tuple #[.int .u64 0, .int .i64 2]) ∧ w' = w := by
  go_enter Tryz.func39, Tryz.ntmps39
  go_wp2_with (first | (go_at_call 70; refine met (within_nil _ _ _) ?_) | fail "no arm")
  go_ret2
  exact ⟨rfl, rfl⟩

theorem hstore_nil (a v : Int) (w : World) : Calls Tryz.prog 48 #[.pointer none, .int .i64 a, .int .u64 v] w fun e w' => e = .returned (.int .i64 2) ∧ w' = w := by
  go_enter Tryz.func48, Tryz.ntmps48
  go_wp2_with (first | (go_at_call 70; refine met (within_nil _ _ _) ?_) | fail "no arm")
  go_ret
  exact ⟨rfl, rfl⟩

theorem hfits_nil (s : Int) (w : World) (hG : Gl w) : Calls Tryz.prog 56 #[.pointer none, .int .i64 s] w fun e w' => e = .returned (.bool false) ∧ w' = w := by
  have K := room_any s w hG
  generalize rmV s = rv at *
  generalize pgE s = pe at *
  go_enter Tryz.func56, Tryz.ntmps56
  go_wp2_with (first | (go_at_call 90; refine met K ?_) | fail "no arm")
  all_goals
    go_ret
    exact ⟨rfl, rfl⟩

end Go.Proofs.YtjbbomokgpoilaaGreatDoor

/-
  A heap as it lies in memory, wherever its struct lies; no statement is proved here.
-/
namespace Go.Proofs.YtjbbomokgpoilaaGreatDoor
open Go.RowKit

/-! ### worlds that differ in some blocks -/

/-- The world w' is as w was but for blocks of B and for what is new. -/
structure Fx (B : Nat → Prop) (w w' : World) : Prop where
  os : w'.os = w.os
  tape : w'.tape = w.tape
  output : w'.output = w.output
  size : w.heap.size ≤ w'.heap.size
  block : ∀ k, k < w.heap.size → ¬ B k → w'.heap[k]? = w.heap[k]?

theorem Fx.refl (B : Nat → Prop) (w : World) : Fx B w w := ⟨rfl, rfl, rfl, Nat.le_refl _, fun _ _ _ => rfl⟩
theorem Fx.of_ext {B : Nat → Prop} {S : List Nat} {w w' : World} (h : Ext S w w') (hs : ∀ x ∈ S, B x ∨ w.heap.size ≤ x) : Fx B w w' :=
  ⟨h.os, h.tape, h.output, h.size, fun k hk hb => h.block k hk (fun q => by rcases hs k q with r | r; exact hb r; omega)⟩
theorem Fx.of_ext0 {B : Nat → Prop} {w w' : World} (h : Ext [] w w') : Fx B w w' := Fx.of_ext h (by simp)
/-- What comes behind may turn what is new besides. -/
theorem Fx.trans {B C : Nat → Prop} {a b c : World} (h : Fx B a b) (k : Fx C b c) (hc : ∀ x, C x → B x ∨ a.heap.size ≤ x) : Fx B a c :=
  ⟨k.os.trans h.os, k.tape.trans h.tape, k.output.trans h.output, Nat.le_trans h.size k.size, fun i hi hs => (k.block i (Nat.lt_of_lt_of_le hi h.size) (fun q => by rcases hc i q with r | r; exact hs r; omega)).trans (h.block i hi hs)⟩
theorem Fx.mono {B C : Nat → Prop} {a b : World} (h : Fx B a b) (hs : ∀ x, B x → C x) : Fx C a b :=
  ⟨h.os, h.tape, h.output, h.size, fun i hi hk => h.block i hi (fun q => hk (hs i q))⟩
/-- Behind a step that turned only what is new since a. -/
theorem Fx.on {B : Nat → Prop} {a b c : World} (h : Ext [] a b) (k : Fx B b c) (hs : ∀ x, B x → a.heap.size ≤ x) : Ext [] a c :=
  ⟨k.os.trans h.os, k.tape.trans h.tape, k.output.trans h.output, Nat.le_trans h.size k.size, fun i hi _ => (k.block i (Nat.lt_of_lt_of_le hi h.size) (fun q => by have := hs i q; omega)).trans (h.block i hi (by simp))⟩
theorem Fx.keep {B : Nat → Prop} {w w' : World} (h : Fx B w w') {k : Nat} {o : Obj} (hk : w.heap[k]? = some o) (hs : ¬ B k) : w'.heap[k]? = some o :=
  (h.block k (lt_of_heap hk) hs).trans hk
theorem Fx.cell {B : Nat → Prop} {w w' : World} (h : Fx B w w') {a : Addr} {v : Value} (hk : w.cell? a = some v) (hs : ¬ B a.block) : w'.cell? a = some v := by
  rw [← hk]
  exact World.cell?_of_block (h.block a.block (block_lt_of_cell hk) hs)
theorem Fx.ext0 {B : Nat → Prop} {w w' : World} (h : Fx B w w') (hs : ∀ x, B x → w.heap.size ≤ x) : Ext [] w w' :=
  ⟨h.os, h.tape, h.output, h.size, fun k hk _ => h.block k hk (fun q => by have := hs k q; omega)⟩

/-! ### a heap -/

/-- A heap: its struct's three cells lie in block p from place ox on; cs is what else the block holds. -/
structure Hm (w : World) (p ox : Nat) (T : TypeId) (cs : Array Value) (F : Nat → Prop) (H : Hs) (ag og : Nat) (V : Value) (sb : Nat → Nat × Nat) (O : List (Option Nat)) : Prop where
  box : Bx T ox cs w p V
  ty : T ≠ 5 ∧ T ≠ 128 ∧ T ≠ 141 ∧ T ≠ 143
  ca : cs[ox]? = some (.slice (some ⟨ag, 0, none⟩) H.B.length H.B.length)
  co : cs[ox + 2]? = some (.slice (some ⟨og, 0, none⟩) O.length O.length)
  bytes : Row w ag H.B
  runs : Lst w V H.R
  owners : w.heap[og]? = some (.cells (ocells O).toArray 128 (0, 0))
  olen : O.length = H.P
  own : ∀ i, i < H.P → O.getD i none = (spanAt H.sp i).map fun x => (sb x.st).1
  spans : ∀ x ∈ H.sp, Sp w (sb x.st).1 (sb x.st).2 x.st x.n x.rm (us x.S) x.S
  inj : ∀ x ∈ H.sp, ∀ y ∈ H.sp, x.st ≠ y.st → (sb x.st).1 ≠ (sb y.st).1 ∧ (sb x.st).2 ≠ (sb y.st).2
  fa : F ag
  fo : F og
  fv : ∀ g, V.ownBlock = some g → F g
  fs : ∀ x ∈ H.sp, F (sb x.st).1 ∧ F (sb x.st).2
  np : ¬ F p
  ok : Hv H
/-- A heap of these blocks besides p. -/
def Hw (w : World) (p ox : Nat) (T : TypeId) (cs : Array Value) (F : Nat → Prop) (H : Hs) : Prop := ∃ ag og V sb O, Hm w p ox T cs F H ag og V sb O

section
variable {w : World} {p ox : Nat} {T : TypeId} {cs : Array Value} {F : Nat → Prop} {H : Hs} {ag og : Nat} {V : Value} {sb : Nat → Nat × Nat} {O : List (Option Nat)}

theorem Hm.rs (h : Hm w p ox T cs F H ag og V sb O) : Rs T ox cs w p V H.R := ⟨h.box, h.runs⟩
theorem Hm.ar (h : Hm w p ox T cs F H ag og V sb O) : Ar ox w p ag H.B := by
  refine ⟨⟨_, T, h.box.at_, h.ty.1, ?_⟩, h.bytes, ?_, h.ok.bt⟩
  · rw [Array.getElem?_setIfInBounds, if_neg (by omega)]; exact h.ca
  · have := h.ok.bl; have := h.ok.P1; omega
theorem Hm.ow (h : Hm w p ox T cs F H ag og V sb O) : Ow ox w p og O := by
  refine ⟨⟨_, T, h.box.at_, h.ty.2.1, ?_⟩, h.owners⟩
  rw [Array.getElem?_setIfInBounds, if_neg (by omega)]; exact h.co
theorem Hm.pt (h : Hm w p ox T cs F H ag og V sb O) : p < w.heap.size := lt_of_heap h.box.at_
theorem Hm.o1 (h : Hm w p ox T cs F H ag og V sb O) : O.length ≤ 1024 := by rw [h.olen]; exact h.ok.P1

/-- What leaves a heap's blocks alone leaves the heap alone. -/
theorem Hm.keep {B : Nat → Prop} {w' : World} (h : Hm w p ox T cs F H ag og V sb O) (x : Fx B w w') (hp : ¬ B p) (hf : ∀ k, F k → ¬ B k) : Hm w' p ox T cs F H ag og V sb O := by
  refine ⟨⟨x.keep h.box.at_ hp, h.box.sz, h.box.ty⟩, h.ty, h.ca, h.co, x.keep h.bytes (hf _ h.fa), ?_, x.keep h.owners (hf _ h.fo), h.olen, h.own, fun y hy => ?_, h.inj, h.fa, h.fo, h.fv, h.fs, h.np, h.ok⟩
  · refine ⟨h.runs.1, ?_⟩
    rcases h.runs.2 with q | ⟨g, cap, cur, hv, h1, h2, h3⟩
    · exact .inl q
    · exact .inr ⟨g, cap, cur, hv, h1, x.keep h2 (hf _ (h.fv g (by rw [hv]; rfl))), h3⟩
  · exact ⟨x.keep (h.spans y hy).box (hf _ (h.fs y hy).1), x.keep (h.spans y hy).row (hf _ (h.fs y hy).2)⟩
theorem Hw.keep {B : Nat → Prop} {w' : World} (h : Hw w p ox T cs F H) (x : Fx B w w') (hp : ¬ B p) (hf : ∀ k, F k → ¬ B k) : Hw w' p ox T cs F H := by
  obtain ⟨ag, og, V, sb, O, h⟩ := h
  exact ⟨ag, og, V, sb, O, h.keep x hp hf⟩
theorem Hm.keep0 {w' : World} (h : Hm w p ox T cs F H ag og V sb O) (x : Ext [] w w') : Hm w' p ox T cs F H ag og V sb O := h.keep (B := fun _ => False) (Fx.of_ext0 x) (fun h => h) (fun _ _ h => h)
theorem Hw.keep0 {w' : World} (h : Hw w p ox T cs F H) (x : Ext [] w w') : Hw w' p ox T cs F H := h.keep (B := fun _ => False) (Fx.of_ext0 x) (fun h => h) (fun _ _ h => h)
/-- The footprint may be cut to what there is, or widened. -/
theorem Hm.there (h : Hm w p ox T cs F H ag og V sb O) : Hm w p ox T cs (fun k => F k ∧ k < w.heap.size) H ag og V sb O := by
  refine ⟨h.box, h.ty, h.ca, h.co, h.bytes, h.runs, h.owners, h.olen, h.own, h.spans, h.inj, ⟨h.fa, lt_of_heap h.bytes⟩, ⟨h.fo, lt_of_heap h.owners⟩, fun g hg => ⟨h.fv g hg, h.runs.lt g hg⟩, fun x hx => ⟨⟨(h.fs x hx).1, lt_of_heap (h.spans x hx).box⟩, ⟨(h.fs x hx).2, lt_of_heap (h.spans x hx).row⟩⟩, fun q => h.np q.1, h.ok⟩
theorem Hm.foot {G : Nat → Prop} (h : Hm w p ox T cs F H ag og V sb O) (hg : ∀ k, F k → G k) (hp : ¬ G p) : Hm w p ox T cs G H ag og V sb O := by
  refine ⟨h.box, h.ty, h.ca, h.co, h.bytes, h.runs, h.owners, h.olen, h.own, h.spans, h.inj, hg _ h.fa, hg _ h.fo, fun g q => hg _ (h.fv g q), fun x hx => ⟨hg _ (h.fs x hx).1, hg _ (h.fs x hx).2⟩, hp, h.ok⟩
theorem Hw.ok (h : Hw w p ox T cs F H) : Hv H := by obtain ⟨_, _, _, _, _, h⟩ := h; exact h.ok
theorem Hw.np (h : Hw w p ox T cs F H) : ¬ F p := by obtain ⟨_, _, _, _, _, h⟩ := h; exact h.np
theorem Hw.lt (h : Hw w p ox T cs F H) : p < w.heap.size := by obtain ⟨_, _, _, _, _, h⟩ := h; exact h.pt

end

/-- How a heap has turned, and what was answered. -/
def HPost (w : World) (p ox : Nat) (T : TypeId) (cs : Array Value) (F : Nat → Prop) (H' : Hs) (r : Value) (e : Ending) (w' : World) : Prop :=
  e = .returned r ∧ ∃ F', Hw w' p ox T cs F' H' ∧ Fx (fun k => k = p ∨ F k) w w' ∧ ∀ k, F' k → F k ∨ w.heap.size ≤ k

end Go.Proofs.YtjbbomokgpoilaaGreatDoor

/-
  The iterator over a heap's spans: what it gives a loop; no statement is proved here.
-/
namespace Go.Proofs.YtjbbomokgpoilaaGreatDoor
open Go.RowKit Go.Shelf

attribute [local go_sem] Oper.semAt_some

/-- Blocks that a loop's round must keep. -/
def Ks (K : List Nat) (A B : World) : Prop := ∀ b ∈ K, ∀ o, A.heap[b]? = some o → B.heap[b]? = some o
theorem Ks.refl (K : List Nat) (A : World) : Ks K A A := fun _ _ _ h => h
theorem Ks.trans {K : List Nat} {A B C : World} (h : Ks K A B) (k : Ks K B C) : Ks K A C := fun b hb o ho => k b hb o (h b hb o ho)
theorem Ks.of_ext0 {K : List Nat} {A B : World} (x : Ext [] A B) : Ks K A B := fun _ _ _ ho => x.keep ho (by simp)

/-- One of a heap's spans. -/
abbrev Os (H : Hs) : Type := { x : Spn // x ∈ H.sp }
/-- The spans that begin at the first k pages. -/
def heads (H : Hs) (k : Nat) : List (Os H) := H.sp.attach.filter fun x => decide (x.val.st < k)
theorem filter_succ {α : Type} (f : α → Nat) : ∀ (L : List α) (k : Nat), L.Pairwise (fun a b => f a < f b) → (L.filter fun x => decide (f x < k + 1)) = (L.filter fun x => decide (f x < k)) ++ L.filter fun x => decide (f x = k)
  | [], _, _ => rfl
  | a :: L, k, h => by
    have hL := List.pairwise_cons.1 h
    have ih := filter_succ f L k hL.2
    rcases Nat.lt_trichotomy (f a) k with q | q | q
    · rw [List.filter_cons_of_pos (by simp; omega), List.filter_cons_of_pos (by simpa using q), List.filter_cons_of_neg (by simp; omega), ih]; rfl
    · have e1 : (L.filter fun x => decide (f x < k)) = [] := by
        rw [List.filter_eq_nil_iff]; intro b hb; have := hL.1 b hb; simp; omega
      have e2 : (L.filter fun x => decide (f x < k + 1)) = [] := by
        rw [List.filter_eq_nil_iff]; intro b hb; have := hL.1 b hb; simp; omega
      have e3 : (L.filter fun x => decide (f x = k)) = [] := by
        rw [List.filter_eq_nil_iff]; intro b hb; have := hL.1 b hb; simp; omega
      rw [List.filter_cons_of_pos (by simp; omega), List.filter_cons_of_neg (by simp; omega), List.filter_cons_of_pos (by simpa using q), e1, e2, e3]; rfl
    · rw [List.filter_cons_of_neg (by simp; omega), List.filter_cons_of_neg (by simp; omega), List.filter_cons_of_neg (by simp; omega), ih]
theorem attach_sorted {H : Hs} (h : Hv H) : H.sp.attach.Pairwise (fun a b => a.val.st < b.val.st) := by
  have h1 : H.sp.Pairwise (fun a b => a.st < b.st) := List.Pairwise.imp_of_mem (fun {a b} ha _ q => by have := (h.ok a ha).n1; omega) h.sorted
  exact (List.pairwise_map (f := Subtype.val)).1 (by rw [List.attach_map_subtype_val]; exact h1)
theorem heads_no {H : Hs} (h : Hv H) {k : Nat} (hn : ∀ x ∈ H.sp, x.st ≠ k) : heads H (k + 1) = heads H k := by
  unfold heads
  rw [filter_succ (fun x : Os H => x.val.st) _ k (attach_sorted h)]
  have : (H.sp.attach.filter fun x => decide (x.val.st = k)) = [] := by
    rw [List.filter_eq_nil_iff]; intro b _; simpa using hn b.val b.property
  rw [this, List.append_nil]
theorem filter_one {α : Type} (f : α → Nat) (k : Nat) (x : α) : ∀ (L : List α), L.Pairwise (fun a b => f a < f b) → x ∈ L → f x = k → (L.filter fun x => decide (f x = k)) = [x]
  | [], _, hx, _ => by cases hx
  | a :: L, h, hx, hk => by
    have hL := List.pairwise_cons.1 h
    rcases List.mem_cons.1 hx with rfl | hx
    · rw [List.filter_cons_of_pos (by simpa using hk)]
      congr 1
      rw [List.filter_eq_nil_iff]; intro b hb; have := hL.1 b hb; simp; omega
    · have := hL.1 x hx
      rw [List.filter_cons_of_neg (by simp; omega)]
      exact filter_one f k x L hL.2 hx hk
theorem heads_yes {H : Hs} (h : Hv H) {k : Nat} {x : Spn} (hx : x ∈ H.sp) (hk : x.st = k) : heads H (k + 1) = heads H k ++ [⟨x, hx⟩] := by
  unfold heads
  rw [filter_succ (fun x : Os H => x.val.st) _ k (attach_sorted h), filter_one (fun x : Os H => x.val.st) k ⟨x, hx⟩ _ (attach_sorted h) (List.mem_attach _ _) hk]
theorem heads_all {H : Hs} (h : Hv H) : heads H H.P = H.sp.attach := by
  unfold heads
  rw [List.filter_eq_self]
  intro x _
  have := h.le x.property
  have := (h.ok x.val x.property).n1
  simp; omega
theorem heads_pre {H : Hs} (h : Hv H) {i j : Nat} (hij : i ≤ j) : heads H i <+: heads H j := by
  induction j with
  | zero =>
    have : i = 0 := by omega
    rw [this]; exact List.prefix_rfl
  | succ j ih =>
    by_cases e : i = j + 1
    · rw [e]; exact List.prefix_rfl
    · refine (ih (by omega)).trans ?_
      unfold heads
      rw [filter_succ (fun x : Os H => x.val.st) _ j (attach_sorted h)]
      exact List.prefix_append _ _

/-- The blocks that the iterator reads. -/
def Kb (Bn p og : Nat) (H : Hs) (sb : Nat → Nat × Nat) : List Nat := Bn :: p :: og :: H.sp.map fun x => (sb x.st).1
theorem mem_kb {Bn p og : Nat} {H : Hs} {sb : Nat → Nat × Nat} {x : Spn} (hx : x ∈ H.sp) : (sb x.st).1 ∈ Kb Bn p og H sb := by
  simp only [Kb, List.mem_cons, List.mem_map]
  exact .inr (.inr (.inr ⟨x, hx, rfl⟩))

structure It (ox : Nat) (w : World) (Bn p og : Nat) (H : Hs) (sb : Nat → Nat × Nat) (O : List (Option Nat)) : Prop where
  box : Boxed w Bn 125 (.pointer (some ⟨p, ox, none⟩))
  ow : Ow ox w p og O
  olen : O.length = H.P
  own : ∀ i, i < H.P → O.getD i none = (spanAt H.sp i).map fun x => (sb x.st).1
  sts : ∀ x ∈ H.sp, ∃ cs T, w.heap[(sb x.st).1]? = some (.cells cs T (0, 0)) ∧ cs[0]? = some (.int .i64 (x.st : Nat))
  ok : Hv H
theorem It.keepK {ox : Nat} {A B : World} {Bn p og : Nat} {H : Hs} {sb : Nat → Nat × Nat} {O : List (Option Nat)} (k : It ox A Bn p og H sb O) (x : Ks (Kb Bn p og H sb) A B) : It ox B Bn p og H sb O := by
  obtain ⟨cs, T, hb, ht, hc⟩ := k.ow.box
  refine ⟨x Bn (by simp [Kb]) _ k.box, ⟨⟨cs, T, x p (by simp [Kb]) _ hb, ht, hc⟩, x og (by simp [Kb]) _ k.ow.row⟩, k.olen, k.own, fun y hy => ?_, k.ok⟩
  obtain ⟨cs, T, h1, h2⟩ := k.sts y hy
  exact ⟨cs, T, x _ (mem_kb hy) _ h1, h2⟩
theorem It.start {ox : Nat} {w : World} {Bn p og : Nat} {H : Hs} {sb : Nat → Nat × Nat} {O : List (Option Nat)} (k : It ox w Bn p og H sb O) {x : Spn} (hx : x ∈ H.sp) : w.cell? ⟨(sb x.st).1, 0, none⟩ = some (.int .i64 (x.st : Nat)) := by
  obtain ⟨cs, T, h1, h2⟩ := k.sts x hx
  rw [cell_of_row _ _ _ _ _ _ h1]; exact h2

set_option maxRecDepth 100000 in
set_option maxHeartbeats 4000000 in
theorem spans1_in {ox : Nat} (F : Fence) (n : Nat) (h77 : F.fn 111) (hro : F.round = none) (hn : 1 ≤ n) (l Bn p og : Nat) (H : Hs) (sb : Nat → Nat × Nat) (O : List (Option Nat)) (J Jx : List (Os H) → World → Prop)
    (hY : ∀ pre x W, J pre W → pre.length < H.sp.attach.length → YieldAt F (n - 1) Tryz.prog l #[.pointer (some ⟨(sb x.val.st).1, 0, none⟩)] W fun e W' =>
      (e = .returned (.bool true) ∧ J (pre ++ [x]) W' ∧ Ks (Kb Bn p og H sb) W W') ∨ (e = .returned (.bool false) ∧ Jx (pre ++ [x]) W'))
    (W : World) (hI : It ox W Bn p og H sb O) (h0 : J [] W) :
    CallsIn F n Tryz.prog 111 #[.func (.yield l) #[] #[], .pointer (some ⟨Bn, 0, none⟩)] W fun e W' => (∃ v, e = .returned v) ∧
      ((∃ ys, ys = H.sp.attach ∧ J ys W') ∨ (∃ pre, pre <+: H.sp.attach ∧ Jx pre W')) := by
  have hc := hI.box.cell
  have hoc := hI.ow.cell
  have HI := hid hI
  have HL := hid hI.ow.row
  have hv := hI.ok
  have hlen := hv.P1
  have hle := hI.olen
  clear hI
  rw [← heads_all hv] at hY ⊢
  refine callsIn_of_wp Tryz.func111 rfl h77 ?_ hro
  simp only [Tryz.ntmps111, List.size_toArray, List.length_cons, List.length_nil, Nat.reduceAdd, Nat.reduceSub, Array.replicate_succ, Array.replicate_zero, List.push_toArray, List.append_toArray, List.nil_append, List.cons_append]
  rw [hle] at hoc
  have HLE := hid hle
  clear hle
  have HV := hid hv
  clear hv
  generalize hlP : H.P = len at *
  have HLP := hid hlP
  clear hlP
  gi_wp2
  gi_loopw [12] (fun q wr => ∃ k : Nat, q = .int .i64 k ∧ k ≤ len ∧ It ox wr Bn p og H sb O ∧ J (heads H k) wr) (fun q _ => (len - (intOf q)).toNat)
  case atStart => exact ⟨0, rfl, Nat.zero_le _, HI.out, by
    have : heads H 0 = [] := by unfold heads; rw [List.filter_eq_nil_iff]; intro x _; simp
    rw [this]; exact h0⟩
  case round =>
    obtain ⟨k, rfl, hk, hIk, hJk⟩ := hrel
    have HIk := hid hIk
    have HJk := hid hJk
    by_cases hlt : k < len
    · have hat := hIk.ow.at_ (i := k) (by rw [HLE.out]; exact hlt)
      rw [hIk.own k (by rw [HLP.out]; exact hlt)] at hat
      have hlti : (k : Int) < len := by omega
      have hst := fun x (hx : x ∈ H.sp) => hIk.start hx
      clear hIk hJk
      cases hO : spanAt H.sp k with
      | none =>
        have hh : heads H (k + 1) = heads H k := heads_no HV.out (fun x hx e => by
          have := HV.out.spanAt hx (i := k) (by omega) (by have := (HV.out.ok x hx).n1; omega)
          rw [hO] at this; cases this)
        have HH := hid hh
        rw [hO] at hat
        simp only [Option.map_none] at hat
        clear hst hO hh
        gi_wp2
        refine ⟨fun f hf => (by cases hf), ?_⟩
        gi_wp2
        go_roundw
        case rel => exact ⟨k + 1, by go_num, by omega, HIk.out, by rw [HH.out]; exact HJk.out⟩
        case measure => simp [intOf]; omega
      | some x =>
        obtain ⟨hx, hx1, hx2⟩ := spanAt_some hO
        have hs0 := hst x hx
        rw [hO] at hat
        simp only [Option.map_some] at hat
        by_cases hsk : x.st = k
        · have hh : heads H (k + 1) = heads H k ++ [⟨x, hx⟩] := heads_yes HV.out hx hsk
          have hpr := heads_pre HV.out (i := k + 1) (j := len) (by omega)
          have hll : (heads H k).length < (heads H len).length := by
            have := hpr.length_le
            rw [hh, List.length_append] at this
            simp at this
            omega
          obtain ⟨fn, tmps, assign, body, hy, hR⟩ := hY (heads H k) ⟨x, hx⟩ _ HJk.out hll
          have HH := hid hh
          have HPr := hid hpr
          skip
          generalize (sb x.st).1 = s at *
          rw [hsk] at hs0
          clear hst hh hpr hll hx1 hx2 hsk
          gi_wp2
          refine hR.mono ?_
          rintro e W3 (⟨rfl, hJ3, hk3⟩ | ⟨rfl, hJx3⟩)
          · have HI3 := hid (HIk.out.keepK hk3)
            gi_wp2
            go_roundw
            case rel => exact ⟨k + 1, by go_num, by omega, HI3.out, by rw [HH.out]; exact hJ3⟩
            case measure => simp [intOf]; omega
          · gi_wp2
            refine bodyPost_ret (results_none rfl _ _ _) rfl ?_
            exact ⟨⟨_, rfl⟩, .inr ⟨_, by rw [← HH.out]; exact HPr.out, hJx3⟩⟩
        · have hh : heads H (k + 1) = heads H k := heads_no HV.out (fun y hy e => by
            have := HV.out.spanAt hy (i := k) (by omega) (by have := (HV.out.ok y hy).n1; omega)
            rw [hO] at this; cases this; exact hsk e)
          have HH := hid hh
          have hskb : ((x.st : Int) == (k : Int)) = false := by simp; omega
          have hski : ¬ ((x.st : Int) = k) := by omega
          generalize (sb x.st).1 = s at *
          generalize x.st = xs at *
          clear hst hO hh hx1 hx2
          gi_wp2
          refine ⟨fun f hf => (by cases hf), ?_⟩
          gi_wp2
          go_roundw
          case rel => exact ⟨k + 1, by go_num, by omega, HIk.out, by rw [HH.out]; exact HJk.out⟩
          case measure => simp [intOf]; omega
    · obtain rfl : k = len := by omega
      clear hIk hJk
      gi_wp2
      go_end0
      exact ⟨⟨_, rfl⟩, .inl ⟨_, rfl, HJk.out⟩⟩

/-- The iterator's value. -/
def sitv (Bn : Nat) : Value := .func (.func 111) #[] #[.pointer (some ⟨Bn, 0, none⟩)]
theorem spans_any (p : Option Addr) (w : World) : Calls Tryz.prog 81 #[.pointer p] w fun e w' => e = .returned (sitv w.heap.size) ∧ w' = w.alloc (.cells #[.pointer p] 125) := by
  go_enter Tryz.func81, Tryz.ntmps81
  go_wp2
  go_ret
  exact ⟨rfl, rfl⟩
theorem It.keep0 {ox : Nat} {A B : World} {Bn p og : Nat} {H : Hs} {sb : Nat → Nat × Nat} {O : List (Option Nat)} (k : It ox A Bn p og H sb O) (x : Ext [] A B) : It ox B Bn p og H sb O := k.keepK (Ks.of_ext0 x)
/-- The iterator's contract. -/
theorem spans_stops {ox : Nat} (F : Fence) (n : Nat) (h77 : F.fn 111) (hro : F.round = none) (hn : 1 ≤ n) (Bn p og : Nat) (H : Hs) (sb : Nat → Nat × Nat) (O : List (Option Nat)) (w : World) (hI : It ox w Bn p og H sb O) :
    SeqStopsK F n Tryz.prog 111 #[.pointer (some ⟨Bn, 0, none⟩)] (fun x : Os H => #[.pointer (some ⟨(sb x.val.st).1, 0, none⟩)]) (Ks (Kb Bn p og H sb)) (fun ys => ys = H.sp.attach) (fun pre => pre <+: H.sp.attach) H.sp.attach.length w := fun l J Jx W hW _ _ hY h0 =>
  spans1_in F n h77 hro hn l Bn p og H sb O J Jx hY W (hI.keep0 (below_ext hW)) h0

theorem Hm.it {w : World} {p ox : Nat} {T : TypeId} {cs : Array Value} {F : Nat → Prop} {H : Hs} {ag og : Nat} {V : Value} {sb : Nat → Nat × Nat} {O : List (Option Nat)} (h : Hm w p ox T cs F H ag og V sb O) {Bn : Nat} (hb : Boxed w Bn 125 (.pointer (some ⟨p, ox, none⟩))) : It ox w Bn p og H sb O :=
  ⟨hb, h.ow, h.olen, h.own, fun x hx => ⟨_, _, (h.spans x hx).box, rfl⟩, h.ok⟩

end Go.Proofs.YtjbbomokgpoilaaGreatDoor

/-
  A region that draws and only reads, inside a loop's round: one walk in the text's order serves every order; no statement is proved here.
-/
namespace Go.Proofs.YtjbbomokgpoilaaGreatDoor

section
variable {F : Fence} {n : Nat} {P : Program} {ops : Array Oper} {md : Region.Mode} {C : World → Prop}

/-- Is it a defer statement? -/
def isDefer : Op → Bool
  | .defer _ => true
  | _ => false
theorem ne_defer {o : Op} (h : isDefer o = false) : ∀ c, o ≠ .defer c := fun c e => by rw [e] at h; cases h

theorem quietR_op {o : Oper} {a : Act} {K : Act → Prop} {K' : Act → World → Prop} {Q' : Exit → Act → World → Prop} {w : World} (hd : isDefer o.op = false) (hw : C w) (h : ∀ a w', C w' → K a → K' a w')
    (ha : o.askedIn F P a C) (hh : o.quietIn F n P a C K) : o.wpIn F n P a w K' Q' := by
  obtain ⟨v, h1, h2⟩ := hh
  have h3 := h1 w hw
  unfold Oper.quietAtIn at h3
  unfold Oper.wpIn
  refine ⟨ha w hw, ?_⟩
  rw [Oper.semAt_eq _ _ _ (ne_defer hd)]
  generalize (execOp a.eval o).run P w = r at *
  cases r with
  | ok x w' =>
    cases x <;> simp only [Oper.quietUponIn] at h3 <;> simp only [Oper.uponIn]
    case value u =>
      obtain ⟨e1, e2⟩ := h3
      rw [e1, e2]
      exact h _ _ hw h2
    case skip =>
      obtain ⟨e1, e2⟩ := h3
      rw [e1, ← e2]
      exact h _ _ hw h2
    case enter f args =>
      obtain ⟨e1, hd, hc⟩ := h3
      rw [e1]
      exact ⟨hd, hc.mono fun e w'' ⟨he, hw''⟩ => by subst he; exact h _ _ hw'' h2⟩
  | halt x w' => simp only [Oper.quietUponIn] at h3

theorem quietR_opIn (hnd : ∀ (i : Nat) (o : Oper), ops[i]? = some o → isDefer o.op = false) {i : Nat} {a : Act} {K : Act → Prop} {K' : Act → World → Prop} {Q' : Exit → Act → World → Prop} {w : World} (hC : C w) (h : ∀ a w', C w' → K a → K' a w')
    (hh : qOpIn F n P ops C i K a) : wpOpIn F n P ops Q' i K' a w := by
  unfold qOpIn at hh
  unfold wpOpIn
  split
  · rename_i ho; simp only [ho] at hh; exact h _ _ hC hh
  · rename_i o ho
    simp only [ho] at hh
    obtain ⟨ha, hh⟩ := hh
    split
    · rename_i hw; simp only [hw, if_true] at hh; exact quietR_op (hnd i o ho) hC h ha hh
    · rename_i hw; simp only [hw] at hh; exact ⟨ha w hC, h _ _ hC hh⟩

theorem quietR_any (hnd : ∀ (i : Nat) (o : Oper), ops[i]? = some o → isDefer o.op = false) {Q : Act → Prop} {Q' : Exit → Act → World → Prop} (hQ : ∀ a w, C w → Q a → Q' .normal a w) : ∀ (fuel : Nat) (listed : Array Bool) (a : Act) (w : World), C w →
    wpAnyQIn F n P md ops C Q fuel listed a → wpAnyIn F n P md ops Q' fuel listed a w
  | 0, _, _, _, hw, h => ⟨h.1, hQ _ _ hw h.2⟩
  | fuel + 1, _, _, _, hw, h => ⟨fun h0 => hQ _ _ hw (h.1 h0), fun i hi => quietR_opIn hnd hw (fun a' w' hw' => quietR_any hnd hQ fuel _ a' w' hw') (h.2 i hi)⟩

/-- One walk of the text's order serves every order, whatever round runs. -/
theorem wpIn_region_quietR {id : Nat} {Q : Exit → Act → World → Prop} {a : Act} {w : World} {l : List Oper} (hnd : l.all (fun o => !isDefer o.op) = true) (hm : P.follows .mixedOrders = true) (hB : Region.lexB .any l.toArray = true)
    (h : wpQuietIn F n P l.toArray (fun w' => ∃ n, w' = w.drewN n) (fun a' => ∀ w', (∃ n, w' = w.drewN n) → Q .normal a' w') l a) : (Code.region id l.toArray true).wpIn F n P Q a w := by
  simp only [Region.lexB, Bool.and_eq_true] at hB
  have hnd' : ∀ (i : Nat) (o : Oper), l.toArray[i]? = some o → isDefer o.op = false := fun i o ho => by
    have h1 : o ∈ l := by simp only [List.getElem?_toArray] at ho; exact List.mem_of_getElem? ho
    have := List.all_eq_true.1 hnd o h1
    simpa using this
  refine wpIn_region_any hm (quietR_any (C := fun w' => ∃ n, w' = w.drewN n) hnd' (Q := fun a' => ∀ w', (∃ n, w' = w.drewN n) → Q .normal a' w') (fun _ w' hw' h => h w' hw') _ _ _ _ ⟨1, rfl⟩ ?_)
  have := wpAnyQIn_lex (F := F) (n := n) (P := P) (C := fun w' => ∃ n, w' = w.drewN n) (md := .any) hB.1 l 0 (Array.replicate l.toArray.size false) a (by simp) (by simpa using hB.2) h
  simpa using this

end

end Go.Proofs.YtjbbomokgpoilaaGreatDoor
