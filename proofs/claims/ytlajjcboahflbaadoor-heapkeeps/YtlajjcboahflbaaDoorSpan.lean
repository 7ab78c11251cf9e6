/-
  Spans: their addresses, a new one, the pages that they own, a slot that is taken; no statement is proved here.
-/
import Derived.Test.YtlajjcboahflbaaDoorCalls
import Derived.Test.YtlajjcboahflbaaDoorArenaTwo
import Derived.Test.YtlajjcboahflbaaDoorCls
import Derived.Deep.RegionHeld3
namespace Go.Proofs.YtlajjcboahflbaaDoor
open Go.RowKit

theorem pageAddr_any (p : Int) (w : World) (h : 0 ≤ p ∧ p ≤ 1000000) : Calls Tryd.prog 62 #[.int .i64 p] w fun e w' => e = .returned (.int .i64 ((p + 1) * 256)) ∧ w' = w := by
  have h1 : IntKind.i64.wrap (p + 1) = p + 1 := by rw [IntKind.wrap_i64]; omega
  have h2 : IntKind.i64.wrap ((p + 1) * 256) = (p + 1) * 256 := by rw [IntKind.wrap_i64]; omega
  go_enter Tryd.func62, Tryd.ntmps62
  go_wp2
  go_ret
  exact ⟨rfl, rfl⟩

/-- What is known of the objects in a span's slots: sizes and tags. -/
abbrev Slot := Int × Int
def scells (S : List Slot) : List Value := S.flatMap fun x => [.int .i64 x.1, .int .i64 x.2]

/-- A span: its struct is block s, its slots are block g. -/
structure Sp (w : World) (s g : Nat) (start pages room used : Int) (S : List Slot) : Prop where
  box : w.heap[s]? = some (.cells #[.int .i64 start, .int .i64 pages, .int .i64 room, .int .i64 used, .slice (some ⟨g, 0, none⟩) S.length S.length] 106 (0, 0))
  row : w.heap[g]? = some (.cells (scells S).toArray 115 (0, 0))
theorem Sp.keep {E : List Nat} {w w' : World} {s g : Nat} {start pages room used : Int} {S : List Slot} (h : Sp w s g start pages room used S) (e : Ext E w w') (hs : s ∉ E) (hg : g ∉ E) : Sp w' s g start pages room used S := ⟨e.keep h.box hs, e.keep h.row hg⟩
theorem Sp.c0 {w : World} {s g : Nat} {start pages room used : Int} {S : List Slot} (h : Sp w s g start pages room used S) : w.cell? ⟨s, 0, none⟩ = some (.int .i64 start) := by rw [cell_of_row _ _ _ _ _ _ h.box]; rfl
theorem Sp.c1 {w : World} {s g : Nat} {start pages room used : Int} {S : List Slot} (h : Sp w s g start pages room used S) : w.cell? ⟨s, 1, none⟩ = some (.int .i64 pages) := by rw [cell_of_row _ _ _ _ _ _ h.box]; rfl
theorem Sp.c2 {w : World} {s g : Nat} {start pages room used : Int} {S : List Slot} (h : Sp w s g start pages room used S) : w.cell? ⟨s, 2, none⟩ = some (.int .i64 room) := by rw [cell_of_row _ _ _ _ _ _ h.box]; rfl
theorem Sp.c3 {w : World} {s g : Nat} {start pages room used : Int} {S : List Slot} (h : Sp w s g start pages room used S) : w.cell? ⟨s, 3, none⟩ = some (.int .i64 used) := by rw [cell_of_row _ _ _ _ _ _ h.box]; rfl
theorem Sp.c4 {w : World} {s g : Nat} {start pages room used : Int} {S : List Slot} (h : Sp w s g start pages room used S) : w.cell? ⟨s, 4, none⟩ = some (.slice (some ⟨g, 0, none⟩) S.length S.length) := by rw [cell_of_row _ _ _ _ _ _ h.box]; rfl
theorem Sp.fr {w : World} {s g : Nat} {start pages room used : Int} {S : List Slot} (h : Sp w s g start pages room used S) (i : Nat) : w.frozen? ⟨s, i, none⟩ = false := frozen_of_row _ _ _ _ _ h.box
theorem Sp.fg {w : World} {s g : Nat} {start pages room used : Int} {S : List Slot} (h : Sp w s g start pages room used S) (i : Nat) : w.frozen? ⟨g, i, none⟩ = false := frozen_of_row _ _ _ _ _ h.row

theorem scells_get (S : List Slot) (i : Nat) (h : i < S.length) : (scells S)[i * 2]? = some (.int .i64 (S.getD i (0, 0)).1) ∧ (scells S)[i * 2 + 1]? = some (.int .i64 (S.getD i (0, 0)).2) := by
  induction S generalizing i with
  | nil => simp at h
  | cons x S ih =>
    cases i with
    | zero => simp [scells]
    | succ i =>
      have := ih i (by simpa using h)
      rw [show (i + 1) * 2 = i * 2 + 2 by omega]
      simpa [scells] using this
theorem Sp.at_ {w : World} {s g : Nat} {start pages room used : Int} {S : List Slot} (h : Sp w s g start pages room used S) {i : Nat} (hi : i < S.length) : w.cell? ⟨g, i * 2, none⟩ = some (.int .i64 (S.getD i (0, 0)).1) ∧ w.cell? ⟨g, i * 2 + 1, none⟩ = some (.int .i64 (S.getD i (0, 0)).2) := by
  obtain ⟨h1, h2⟩ := scells_get S i hi
  constructor
  · rw [cell_of_row _ _ _ _ _ _ h.row]; simpa using h1
  · rw [cell_of_row _ _ _ _ _ _ h.row]; simpa using h2

set_option maxRecDepth 100000 in
set_option maxHeartbeats 1000000 in
theorem addr_any (s g : Nat) (start pages room used i : Int) (S : List Slot) (w : World) (hS : Sp w s g start pages room used S) (h1 : 0 ≤ start ∧ start ≤ 1024) (h2 : 0 ≤ room ∧ room ≤ 65536) (h3 : 0 ≤ i ∧ i ≤ 65536) :
    Calls Tryd.prog 33 #[.pointer (some ⟨s, 0, none⟩), .int .i64 i] w (SayPost w (.int .i64 ((start + 1) * 256 + i * room))) := by
  have c0 := hS.c0
  have c2 := hS.c2
  have hm : 0 ≤ i * room ∧ i * room ≤ 65536 * 65536 := ⟨Int.mul_nonneg h3.1 h2.1, Int.mul_le_mul h3.2 h2.2 h2.1 (by omega)⟩
  obtain ⟨q, hq⟩ : ∃ q, q = i * room := ⟨_, rfl⟩
  rw [← hq] at hm ⊢
  have e1 : IntKind.i64.wrap (i * room) = q := by rw [← hq, IntKind.wrap_i64]; omega
  have e2 : IntKind.i64.wrap ((start + 1) * 256 + q) = (start + 1) * 256 + q := by rw [IntKind.wrap_i64]; omega
  have K := fun u => pageAddr_any start u (by omega)
  clear hS hq
  go_enter Tryd.func33, Tryd.ntmps33
  go_wp2_with fail
  go_region_held3 (fun w' => w'.cell? ⟨s, 0, none⟩ = some (.int .i64 start) ∧ w'.cell? ⟨s, 2, none⟩ = some (.int .i64 room)) (go_keep)
    (first | (go_at_call 62; refine met (K _) ?_) | fail "no arm")
  go_wp2_with fail
  go_ret
  exact ⟨rfl, Ext.drew _ _⟩

end Go.Proofs.YtlajjcboahflbaaDoor
