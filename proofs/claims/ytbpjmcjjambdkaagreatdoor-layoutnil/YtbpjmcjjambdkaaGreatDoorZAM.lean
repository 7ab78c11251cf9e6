/-
  Cls, Span, SpanB, HMath, Nil: joined by program; no statement is proved here.
-/
import Derived.Test.YtbpjmcjjambdkaaGreatDoorZAI
import Derived.Deep.RegionHeld3
import Derived.Deep.QuietTactic
import Derived.BigQuiet
import Derived.Deep.WholeRow
import Derived.Test.YtbpjmcjjambdkaaGreatDoorZAK
import Derived.Test.YtbpjmcjjambdkaaGreatDoorZAL
/-
  The sizes of slots, their pages and their room, at the heap's seat; no statement is proved here.
-/
namespace Go.Proofs.YtbpjmcjjambdkaaGreatDoor
open Go.RowKit

/-- The sizes of slots. -/
def sz (k : Nat) : Int := [8, 16, 24, 32, 48, 64, 96, 128].getD k 0
def Gl (w : World) : Prop := ∀ k, k ≤ 7 → w.cell? ⟨0, k, none⟩ = some (.int .i64 (sz k))
theorem Gl.keep0 {w w' : World} (h : Gl w) (e : Ext [] w w') : Gl w' := fun k hk => e.cell (h k hk) (by simp)

def Ok (s : Int) : Prop := 1 ≤ s ∧ s ≤ 65536
instance (s : Int) : Decidable (Ok s) := inferInstanceAs (Decidable (_ ∧ _))
def clsN (s : Int) : Nat := if s ≤ 8 then 0 else if s ≤ 16 then 1 else if s ≤ 24 then 2 else if s ≤ 32 then 3 else if s ≤ 48 then 4 else if s ≤ 64 then 5 else if s ≤ 96 then 6 else 7
def clsV (s : Int) : Int := if Ok s ∧ s ≤ 128 then clsN s else 0
def clsE (s : Int) : Int := if Ok s then (if s ≤ 128 then 0 else 6) else 2
def pgV (s : Int) : Int := if Ok s then (s + 255) / 256 else 0
def pgE (s : Int) : Int := if Ok s then 0 else 2
def rmV (s : Int) : Int := if Ok s then (if s ≤ 128 then sz (clsN s) else (s + 255) / 256 * 256) else 0
def slV (c : Int) : Int := if 0 ≤ c ∧ c ≤ 7 then sz c.toNat else 0
def slE (c : Int) : Int := if 0 ≤ c ∧ c ≤ 7 then 0 else 2
def snV (c : Int) : Int := if 0 ≤ c ∧ c ≤ 7 then 256 / sz c.toNat else 0

theorem allowed_any (s : Int) (w : World) : Calls Tryz.prog 207 #[.int .i64 s] w fun e w' => e = .returned (.bool (decide (Ok s))) ∧ w' = w := by
  by_cases h1 : 1 ≤ s
  · by_cases h2 : s ≤ 65536
    · have h : decide (Ok s) = true := by simp [Ok, h1, h2]
      rw [h]
      go_enter Tryz.func207, Tryz.ntmps207
      go_wp2
      go_ret
      exact ⟨rfl, rfl⟩
    · have h : decide (Ok s) = false := by simp [Ok, h2]
      rw [h]
      go_enter Tryz.func207, Tryz.ntmps207
      go_wp2
      go_ret
      exact ⟨rfl, rfl⟩
  · have h : decide (Ok s) = false := by simp [Ok, h1]
    rw [h]
    go_enter Tryz.func207, Tryz.ntmps207
    go_wp2
    go_ret
    exact ⟨rfl, rfl⟩

theorem slot_any (c : Int) (w : World) (hG : Gl w) : Calls Tryz.prog 193 #[.int .i64 c] w fun e w' => e = .returned (.tuple #[.int .i64 (slV c), .int .i64 (slE c)]) ∧ w' = w := by
  by_cases h : 0 ≤ c ∧ c ≤ 7
  · obtain ⟨n, rfl⟩ : ∃ n : Nat, c = n := ⟨c.toNat, by omega⟩
    have hc := hG n (by omega)
    have hv : slV (n : Int) = sz n := by rw [slV, if_pos h]; rfl
    have he : slE (n : Int) = 0 := by rw [slE, if_pos h]
    rw [hv, he]
    clear hG hv he
    generalize sz n = z at *
    have h1 : ¬ ((n : Int) < 0) := by omega
    have h2 : ¬ (8 ≤ (n : Int)) := by omega
    have h3 : n < 8 := by omega
    clear h
    go_enter Tryz.func193, Tryz.ntmps193
    go_wp2
    go_ret2
    exact ⟨rfl, rfl⟩
  · have hv : slV c = 0 := by rw [slV, if_neg h]
    have he : slE c = 2 := by rw [slE, if_neg h]
    rw [hv, he]
    clear hG hv he
    rcases (by omega : c < 0 ∨ (¬ c < 0 ∧ 8 ≤ c)) with h1 | ⟨h1, h2⟩
    all_goals
      clear h
      go_enter Tryz.func193, Tryz.ntmps193
      go_wp2
      go_ret2
      exact ⟨rfl, rfl⟩

theorem pages_any (s : Int) (w : World) : Calls Tryz.prog 189 #[.int .i64 s] w fun e w' => e = .returned (.tuple #[.int .i64 (pgV s), .int .i64 (pgE s)]) ∧ w' = w := by
  have K := allowed_any s w
  by_cases h : Ok s
  · have hv : pgV s = (s + 255) / 256 := by rw [pgV, if_pos h]
    have he : pgE s = 0 := by rw [pgE, if_pos h]
    rw [hv, he]
    rw [show decide (Ok s) = true by simpa using h] at K
    obtain ⟨h1, h2⟩ := h
    clear hv he
    have e1 : IntKind.wrap .i64 (s + 256) = s + 256 := by rw [IntKind.wrap_i64]; omega
    have e2 : IntKind.wrap .i64 (s + 256 - 1) = s + 255 := by rw [IntKind.wrap_i64]; omega
    have e3 : Int.tdiv (s + 255) 256 = (s + 255) / 256 := Int.tdiv_eq_ediv_of_nonneg (by omega)
    have e4 : IntKind.wrap .i64 ((s + 255) / 256) = (s + 255) / 256 := by rw [IntKind.wrap_i64]; omega
    go_enter Tryz.func189, Tryz.ntmps189
    go_wp2_with (go_at_call 207; refine met K ?_)
    go_ret2
    exact ⟨rfl, rfl⟩
  · have hv : pgV s = 0 := by rw [pgV, if_neg h]
    have he : pgE s = 2 := by rw [pgE, if_neg h]
    rw [hv, he]
    rw [show decide (Ok s) = false by simpa using h] at K
    clear hv he h
    go_enter Tryz.func189, Tryz.ntmps189
    go_wp2_with (go_at_call 207; refine met K ?_)
    go_ret2
    exact ⟨rfl, rfl⟩


theorem k8 {k : Nat} (h : k < 8) : k = 0 ∨ k = 1 ∨ k = 2 ∨ k = 3 ∨ k = 4 ∨ k = 5 ∨ k = 6 ∨ k = 7 := by omega

theorem cls_at {s : Int} {k : Nat} (hk : k < 8) (hlo : ∀ j, j < k → sz j < s) (h : s ≤ sz k) : clsN s = k := by
  have h1 := hlo (k - 1)
  rcases k8 hk with rfl | rfl | rfl | rfl | rfl | rfl | rfl | rfl <;> simp [sz] at h h1 <;> unfold clsN
  all_goals
    repeat' split
    all_goals omega

theorem sz_le {k : Nat} (h : k < 8) : 8 ≤ sz k ∧ sz k ≤ 128 := by
  rcases k8 h with rfl | rfl | rfl | rfl | rfl | rfl | rfl | rfl <;> decide

theorem idx_sz (w : World) (k : Nat) (h : k < 8) : (Instr.index 268 (.agg #[.int .i64 8, .int .i64 16, .int .i64 24, .int .i64 32, .int .i64 48, .int .i64 64, .int .i64 96, .int .i64 128]) (.int .i64 (k : Int))).run Tryz.prog w = .ok (.int .i64 (sz k)) w := by
  rcases k8 h with rfl | rfl | rfl | rfl | rfl | rfl | rfl | rfl <;> simp [Instr.index, run_underlying Tryz.underlying268, asIntOf, go_sem, sz]

set_option maxRecDepth 100000 in
set_option maxHeartbeats 4000000 in
theorem class_any (s : Int) (w : World) (hG : Gl w) : Calls Tryz.prog 192 #[.int .i64 s] w fun e w' => e = .returned (.tuple #[.int .i64 (clsV s), .int .i64 (clsE s)]) ∧ w' = w := by
  have K := allowed_any s w
  by_cases h : Ok s
  · rw [show decide (Ok s) = true by simpa using h] at K
    have c0 := hG 0 (by omega)
    have c1 := hG 1 (by omega)
    have c2 := hG 2 (by omega)
    have c3 := hG 3 (by omega)
    have c4 := hG 4 (by omega)
    have c5 := hG 5 (by omega)
    have c6 := hG 6 (by omega)
    have c7 := hG 7 (by omega)
    simp only [sz, List.getD_cons_succ, List.getD_cons_zero] at c0 c1 c2 c3 c4 c5 c6 c7
    have HO := hid h
    clear h hG
    go_enter Tryz.func192, Tryz.ntmps192
    go_wp2_with (go_at_call 207; refine met K ?_)
    go_loopw [10] (fun q wr => ∃ k : Nat, q = .int .i64 k ∧ k ≤ 8 ∧ wr = w ∧ ∀ j, j < k → sz j < s) (fun q _ => (8 - (intOf q)).toNat)
    case atStart => exact ⟨0, rfl, by omega, rfl, by omega⟩
    case round =>
      obtain ⟨k, rfl, hk, rfl, hlo⟩ := hrel
      by_cases hlt : k < 8
      · have hAt := cls_at (s := s) hlt hlo
        have hZ := sz_le hlt
        have HL := hid hlo
        clear hlo
        by_cases hs : s ≤ sz k
        · have hv : Hid (clsV s = k) := by show _ = _; rw [clsV, if_pos ⟨HO.out, by omega⟩, hAt hs]
          have he : Hid (clsE s = 0) := by show _ = _; rw [clsE, if_pos HO.out, if_pos (by omega)]
          have hI := idx_sz wr k hlt
          have h8 : (k : Int) < 8 := by omega
          clear hAt hZ hk hlt
          generalize sz k = z at *
          go_wp2_with fail
          go_ret2
          exact ⟨by rw [hv.out, he.out]; rfl, rfl⟩
        · have hn : Hid (∀ j, j < k + 1 → sz j < s) := fun j hj => by
            rcases (by omega : j < k ∨ j = k) with h | rfl
            · exact HL.out j h
            · omega
          have hI := idx_sz wr k hlt
          have h8 : (k : Int) < 8 := by omega
          clear hAt hZ hk HL
          generalize sz k = z at *
          go_wp2_with fail
          go_roundw
          case rel => exact ⟨k + 1, by go_num, by omega, trivial, hn.out⟩
          case measure => simp [intOf]; omega
      · obtain rfl : k = 8 := by omega
        have hs : ¬ s ≤ 128 := by have := hlo 7 (by omega); simp [sz] at this; omega
        have hv : Hid (clsV s = 0) := by show _ = _; rw [clsV, if_neg (by simp [hs])]
        have he : Hid (clsE s = 6) := by show _ = _; rw [clsE, if_pos HO.out, if_neg hs]
        clear hlo hk hlt
        go_wp2_with fail
        go_ret2
        exact ⟨by rw [hv.out, he.out]; rfl, rfl⟩
  · have hv : clsV s = 0 := by rw [clsV, if_neg (by simp [h])]
    have he : clsE s = 2 := by rw [clsE, if_neg h]
    rw [hv, he]
    rw [show decide (Ok s) = false by simpa using h] at K
    clear hv he h hG
    go_enter Tryz.func192, Tryz.ntmps192
    go_wp2_with (go_at_call 207; refine met K ?_)
    go_ret2
    exact ⟨rfl, rfl⟩

theorem clsN_lt (s : Int) : clsN s < 8 := by unfold clsN; repeat' split
                                             all_goals omega

set_option maxRecDepth 100000 in
set_option maxHeartbeats 4000000 in
theorem room_any (s : Int) (w : World) (hG : Gl w) : Calls Tryz.prog 163 #[.int .i64 s] w fun e w' => e = .returned (.tuple #[.int .i64 (rmV s), .int .i64 (pgE s)]) ∧ w' = w := by
  have K := class_any s w hG
  by_cases h : Ok s
  · by_cases h1 : s ≤ 128
    · have hv : rmV s = sz (clsN s) := by rw [rmV, if_pos h, if_pos h1]
      have he : pgE s = 0 := by rw [pgE, if_pos h]
      have hc : clsE s = 0 := by rw [clsE, if_pos h, if_pos h1]
      have hx : clsV s = clsN s := by rw [clsV, if_pos ⟨h, h1⟩]
      have hl := clsN_lt s
      rw [hc, hx] at K
      rw [hv, he]
      have K2 := slot_any (clsN s) w hG
      rw [show slV (clsN s) = sz (clsN s) by rw [slV, if_pos (by omega)]; rfl, show slE (clsN s) = 0 by rw [slE, if_pos (by omega)]] at K2
      clear hv he hc hx hG h h1 hl
      generalize sz (clsN s) = z at *
      generalize clsN s = m at *
      go_enter Tryz.func163, Tryz.ntmps163
      go_wp2_with (first | (go_at_call 192; refine met K ?_) | (go_at_call 193; refine met K2 ?_))
      go_ret2
      exact ⟨rfl, rfl⟩
    · have hv : rmV s = (s + 255) / 256 * 256 := by rw [rmV, if_pos h, if_neg h1]
      have he : pgE s = 0 := by rw [pgE, if_pos h]
      have hc : clsE s = 6 := by rw [clsE, if_pos h, if_neg h1]
      have hx : clsV s = 0 := by rw [clsV, if_neg (by simp [h1])]
      have K2 := pages_any s w
      rw [he, show pgV s = (s + 255) / 256 by rw [pgV, if_pos h]] at K2
      rw [hc, hx] at K
      rw [hv, he]
      obtain ⟨g1, g2⟩ := h
      have e1 : IntKind.wrap .i64 ((s + 255) / 256 * 256) = (s + 255) / 256 * 256 := by rw [IntKind.wrap_i64]; omega
      clear hv he hc hx hG h1
      go_enter Tryz.func163, Tryz.ntmps163
      go_wp2_with (first | (go_at_call 192; refine met K ?_) | (go_at_call 189; refine met K2 ?_))
      go_ret2
      exact ⟨rfl, rfl⟩
  · have hv : rmV s = 0 := by rw [rmV, if_neg h]
    have he : pgE s = 2 := by rw [pgE, if_neg h]
    have hc : clsE s = 2 := by rw [clsE, if_neg h]
    have hx : clsV s = 0 := by rw [clsV, if_neg (by simp [h])]
    rw [hc, hx] at K
    rw [hv, he]
    clear hv he hc hx hG h
    go_enter Tryz.func163, Tryz.ntmps163
    go_wp2_with (go_at_call 192; refine met K ?_)
    go_ret2
    exact ⟨rfl, rfl⟩


end Go.Proofs.YtbpjmcjjambdkaaGreatDoor

/-
  Spans: their addresses, a new one, the pages that they own, a slot that is taken; no statement is proved here.
-/
namespace Go.Proofs.YtbpjmcjjambdkaaGreatDoor
open Go.RowKit

theorem pageAddr_any (p : Int) (w : World) (h : 0 ≤ p ∧ p ≤ 1000000) : Calls Tryz.prog 125 #[.int .i64 p] w fun e w' => e = .returned (.int .i64 ((p + 1) * 256)) ∧ w' = w := by
  have h1 : IntKind.i64.wrap (p + 1) = p + 1 := by rw [IntKind.wrap_i64]; omega
  have h2 : IntKind.i64.wrap ((p + 1) * 256) = (p + 1) * 256 := by rw [IntKind.wrap_i64]; omega
  go_enter Tryz.func125, Tryz.ntmps125
  go_wp2
  go_ret
  exact ⟨rfl, rfl⟩

/-- What is known of the objects in a span's slots: sizes and tags. -/
abbrev Slot := Int × Int
def scells (S : List Slot) : List Value := S.flatMap fun x => [.int .i64 x.1, .int .i64 x.2]

/-- A span: its struct is block s, its slots are block g. -/
structure Sp (w : World) (s g : Nat) (start pages room used : Int) (S : List Slot) : Prop where
  box : w.heap[s]? = some (.cells #[.int .i64 start, .int .i64 pages, .int .i64 room, .int .i64 used, .slice (some ⟨g, 0, none⟩) S.length S.length] 195 (0, 0))
  row : w.heap[g]? = some (.cells (scells S).toArray 197 (0, 0))
theorem Sp.keep {E : List Nat} {w w' : World} {s g : Nat} {start pages room used : Int} {S : List Slot} (h : Sp w s g start pages room used S) (e : Ext E w w') (hs : s ∉ E) (hg : g ∉ E) : Sp w' s g start pages room used S := ⟨e.keep h.box hs, e.keep h.row hg⟩
theorem Sp.c0 {w : World} {s g : Nat} {start pages room used : Int} {S : List Slot} (h : Sp w s g start pages room used S) : w.cell? ⟨s, 0, none⟩ = some (.int .i64 start) := by rw [cell_of_row _ _ _ _ _ _ h.box]; rfl
theorem Sp.c1 {w : World} {s g : Nat} {start pages room used : Int} {S : List Slot} (h : Sp w s g start pages room used S) : w.cell? ⟨s, 1, none⟩ = some (.int .i64 pages) := by rw [cell_of_row _ _ _ _ _ _ h.box]; rfl
theorem Sp.c2 {w : World} {s g : Nat} {start pages room used : Int} {S : List Slot} (h : Sp w s g start pages room used S) : w.cell? ⟨s, 2, none⟩ = some (.int .i64 room) := by rw [cell_of_row _ _ _ _ _ _ h.box]; rfl
theorem Sp.c3 {w : World} {s g : Nat} {start pages room used : Int} {S : List Slot} (h : Sp w s g start pages room used S) : w.cell? ⟨s, 3, none⟩ = some (.int .i64 used) := by rw [cell_of_row _ _ _ _ _ _ h.box]; rfl
theorem Sp.c4 {w : World} {s g : Nat} {start pages room used : Int} {S : List Slot} (h : Sp w s g start pages room used S) : w.cell? ⟨s, 4, none⟩ = some (.slice (some ⟨g, 0, none⟩) S.length S.length) := by rw [cell_of_row _ _ _ _ _ _ h.box]; rfl
theorem Sp.fr {w : World} {s g : Nat} {start pages room used : Int} {S : List Slot} (h : Sp w s g start pages room used S) (i : Nat) : w.frozen? ⟨s, i, none⟩ = false := frozen_of_row _ _ _ _ _ h.box
theorem Sp.fg {w : World} {s g : Nat} {start pages room used : Int} {S : List Slot} (h : Sp w s g start pages room used S) (i : Nat) : w.frozen? ⟨g, i, none⟩ = false := frozen_of_row _ _ _ _ _ h.row

theorem scells_get (S : List Slot) (i : Nat) (h : i < S.length) : (scells S)[i * 2]? = some (.int .i64 (S.getD i (0, 0)).1) ∧ (scells S)[i * 2 + 1]? = some (.int .i64 (S.getD i (0, 0)).2) := by
  induction S generalizing i with
  | nil => simp at h
  | cons x S ih =>
    cases i with
    | zero => simp [scells]
    | succ i =>
      have := ih i (by simpa using h)
      rw [show (i + 1) * 2 = i * 2 + 2 by omega]
      simpa [scells] using this
theorem Sp.at_ {w : World} {s g : Nat} {start pages room used : Int} {S : List Slot} (h : Sp w s g start pages room used S) {i : Nat} (hi : i < S.length) : w.cell? ⟨g, i * 2, none⟩ = some (.int .i64 (S.getD i (0, 0)).1) ∧ w.cell? ⟨g, i * 2 + 1, none⟩ = some (.int .i64 (S.getD i (0, 0)).2) := by
  obtain ⟨h1, h2⟩ := scells_get S i hi
  constructor
  · rw [cell_of_row _ _ _ _ _ _ h.row]; simpa using h1
  · rw [cell_of_row _ _ _ _ _ _ h.row]; simpa using h2

set_option maxRecDepth 100000 in
set_option maxHeartbeats 1000000 in
theorem addr_any (s g : Nat) (start pages room used i : Int) (S : List Slot) (w : World) (hS : Sp w s g start pages room used S) (h1 : 0 ≤ start ∧ start ≤ 1024) (h2 : 0 ≤ room ∧ room ≤ 65536) (h3 : 0 ≤ i ∧ i ≤ 65536) :
    Calls Tryz.prog 98 #[.pointer (some ⟨s, 0, none⟩), .int .i64 i] w (SayPost w (.int .i64 ((start + 1) * 256 + i * room))) := by
  have c0 := hS.c0
  have c2 := hS.c2
  have hm : 0 ≤ i * room ∧ i * room ≤ 65536 * 65536 := ⟨Int.mul_nonneg h3.1 h2.1, Int.mul_le_mul h3.2 h2.2 h2.1 (by omega)⟩
  obtain ⟨q, hq⟩ : ∃ q, q = i * room := ⟨_, rfl⟩
  rw [← hq] at hm ⊢
  have e1 : IntKind.i64.wrap (i * room) = q := by rw [← hq, IntKind.wrap_i64]; omega
  have e2 : IntKind.i64.wrap ((start + 1) * 256 + q) = (start + 1) * 256 + q := by rw [IntKind.wrap_i64]; omega
  have K := fun u => pageAddr_any start u (by omega)
  clear hS hq
  go_enter Tryz.func98, Tryz.ntmps98
  go_wp2_with fail
  go_region_held3 (fun w' => w'.cell? ⟨s, 0, none⟩ = some (.int .i64 start) ∧ w'.cell? ⟨s, 2, none⟩ = some (.int .i64 room)) (go_keep)
    (first | (go_at_call 125; refine met (K _) ?_) | fail "no arm")
  go_wp2_with fail
  go_ret
  exact ⟨rfl, Ext.drew _ _⟩

end Go.Proofs.YtbpjmcjjambdkaaGreatDoor

/-
  A slot that is taken or dropped, a new span, the pages that a span owns; no statement is proved here.
-/
namespace Go.Proofs.YtbpjmcjjambdkaaGreatDoor
open Go.RowKit

theorem scells_len (S : List Slot) : (scells S).length = S.length * 2 := by
  induction S with
  | nil => rfl
  | cons x S ih => simp [scells] at ih ⊢; omega
theorem scells_set (a b : Int) : ∀ (S : List Slot) (i : Nat), i < S.length → ((scells S).set (i * 2) (.int .i64 a)).set (i * 2 + 1) (.int .i64 b) = scells (S.set i (a, b))
  | [], i, h => by simp at h
  | x :: S, 0, _ => by simp [scells]
  | x :: S, i + 1, h => by
    have ih := scells_set a b S i (by simpa using h)
    have e : ∀ (y : Slot) (R : List Slot), scells (y :: R) = .int .i64 y.1 :: .int .i64 y.2 :: scells R := fun y R => by simp [scells]
    rw [List.set_cons_succ, e, e, ← ih, show (i + 1) * 2 = i * 2 + 2 by omega]
    simp [Nat.add_assoc]

theorem Sp.put {w : World} {s g : Nat} {start pages room used : Int} {S : List Slot} (h : Sp w s g start pages room used S) {i : Nat} (hi : i < S.length) (a b u : Int) :
    Sp (((w.setCell ⟨g, i * 2, none⟩ (.int .i64 a)).setCell ⟨g, i * 2 + 1, none⟩ (.int .i64 b)).setCell ⟨s, 3, none⟩ (.int .i64 u)) s g start pages room u (S.set i (a, b)) := by
  have hne : s ≠ g := by
    rintro rfl
    have := h.box.symm.trans h.row
    simp at this
  have r1 := heap_setCell_same w g (i * 2) _ _ (.int .i64 a) h.row
  have r2 := heap_setCell_same _ g (i * 2 + 1) _ _ (.int .i64 b) r1
  have b2 : ((w.setCell ⟨g, i * 2, none⟩ (.int .i64 a)).setCell ⟨g, i * 2 + 1, none⟩ (.int .i64 b)).heap[s]? = _ := ((Ext.setCell [g] w ⟨g, i * 2, none⟩ (.int .i64 a) (by simp)).trans (Ext.setCell [g] _ ⟨g, i * 2 + 1, none⟩ (.int .i64 b) (by simp))).keep h.box (by simpa using hne)
  have b3 := heap_setCell_same _ s 3 _ _ (.int .i64 u) b2
  refine ⟨?_, ?_⟩
  · rw [b3, List.length_set]; rfl
  · rw [(Ext.setCell [s] _ ⟨s, 3, none⟩ (.int .i64 u) (by simp)).keep r2 (by simpa using Ne.symm hne)]
    have := scells_set a b S i hi
    congr 2
    apply Array.toList_inj.1
    simpa using this

def TakePost (w : World) (s g : Nat) (start pages room used : Int) (S' : List Slot) (r : Value) (e : Ending) (w' : World) : Prop := e = .returned r ∧ Sp w' s g start pages room used S' ∧ Ext [s, g] w w'

set_option maxRecDepth 100000 in
set_option maxHeartbeats 2000000 in
theorem stake_any (s g : Nat) (start pages room used size tag : Int) (S : List Slot) (k : Nat) (w : World) (hS : Sp w s g start pages room used S) (hk : k < S.length) (hlen : S.length ≤ 65536) (hlo : ∀ j, j < k → 0 < (S.getD j (0, 0)).1) (hz : (S.getD k (0, 0)).1 = 0) (hu : 0 ≤ used ∧ used ≤ 65536) :
    Calls Tryz.prog 166 #[.pointer (some ⟨s, 0, none⟩), .int .i64 size, .int .i64 tag] w (TakePost w s g start pages room (used + 1) (S.set k (size, tag)) (.int .i64 k)) := by
  have HS := hid hS
  have HLO := hid hlo
  have hc4 := hS.c4
  have hc3 := hS.c3
  have hf := hS.fr
  have hfg := hS.fg
  have hne : s ≠ g := by
    rintro rfl
    have := hS.box.symm.trans hS.row
    simp at this
  have hw : IntKind.i64.wrap (used + 1) = used + 1 := by rw [IntKind.wrap_i64]; omega
  clear hS hlo
  go_enter Tryz.func166, Tryz.ntmps166
  go_wp2_with fail
  go_loopw [7] (fun q wr => ∃ i : Nat, q = .int .i64 i ∧ i ≤ k ∧ wr = w) (fun q _ => (k - (intOf q)).toNat)
  case atStart => exact ⟨0, rfl, Nat.zero_le _, rfl⟩
  case round =>
    obtain ⟨i, rfl, hik, rfl⟩ := hrel
    obtain ⟨a0, a1⟩ := HS.out.at_ (i := i) (by omega)
    have hil : (i : Int) < (S.length : Nat) := by omega
    have HL : Hid (S.length ≤ 65536) := hlen
    by_cases hlt : i < k
    · have hp := HLO.out i hlt
      generalize (S.getD i (0, 0)).1 = x at *
      generalize S.length = len at *
      go_wp2_with fail
      exact ⟨⟨i + 1, by go_num, by omega, trivial⟩, by simp [intOf]; omega⟩
    · obtain rfl : i = k := by omega
      have hF : Hid (TakePost wr s g start pages room (used + 1) (S.set i (size, tag)) (.int .i64 i) (.returned (.int .i64 i)) (((wr.setCell ⟨g, i * 2, none⟩ (.int .i64 size)).setCell ⟨g, i * 2 + 1, none⟩ (.int .i64 tag)).setCell ⟨s, 3, none⟩ (.int .i64 (used + 1)))) :=
        ⟨rfl, HS.out.put hk size tag (used + 1), ((Ext.setCell _ _ _ _ (by simp)).trans (Ext.setCell _ _ _ _ (by simp))).trans (Ext.setCell _ _ _ _ (by simp))⟩
      rw [hz] at a0
      generalize S.length = len at *
      go_wp2_with fail
      go_ret
      exact hF.out

theorem info197 : (Tryz.prog.info? 197).map (fun i => (i.zero, i.size, i.bytes)) = some (some (.agg #[.int .i64 0, .int .i64 0]), 2, 16) := by kernel_rfl

theorem getD_rep (n i : Nat) : ((List.replicate n ((0, 0) : Slot)).getD i (0, 0)) = (0, 0) := by
  rw [List.getD_eq_getElem?_getD, List.getElem?_replicate]; split <;> rfl
theorem made_slots (n : Nat) : madeCells (Value.agg #[.int .i64 0, .int .i64 0]).cells (n * 2) = (scells (List.replicate n (0, 0))).toArray := by
  have hl := scells_len (List.replicate n ((0, 0) : Slot))
  rw [List.length_replicate] at hl
  apply Array.ext_getElem?
  intro j
  have tA : ((scells (List.replicate n ((0, 0) : Slot))).toArray)[j]? = (scells (List.replicate n ((0, 0) : Slot)))[j]? := by simp
  rw [tA]
  by_cases hj : j < n * 2
  · have hd : j / 2 < (List.replicate n ((0, 0) : Slot)).length := by rw [List.length_replicate]; omega
    obtain ⟨g0, g1⟩ := scells_get (List.replicate n (0, 0)) (j / 2) hd
    rw [getD_rep] at g0 g1
    have hr : (scells (List.replicate n ((0, 0) : Slot)))[j]? = some (.int .i64 0) := by
      rcases (by omega : j = j / 2 * 2 ∨ j = j / 2 * 2 + 1) with h | h
      · rw [h]; exact g0
      · rw [h]; exact g1
    rw [hr]
    have e : j % 2 = 0 ∨ j % 2 = 1 := by omega
    simp only [madeCells, Value.cells]
    rcases e with e | e <;> simp [hj, e]
  · rw [Array.getElem?_eq_none (by rw [size_madeCells]; omega), List.getElem?_eq_none (by omega)]

def NewSpPost (w : World) (start pages room : Int) (n : Nat) (e : Ending) (w' : World) : Prop :=
  e = .returned (.pointer (some ⟨w.heap.size + 1, 0, none⟩)) ∧ Sp w' (w.heap.size + 1) w.heap.size start pages room 0 (List.replicate n (0, 0)) ∧ Ext [] w w'

set_option maxRecDepth 100000 in
theorem newSpan_any (start pages room : Int) (n : Nat) (w : World) (h1 : 0 ≤ pages ∧ pages ≤ 1024) (h2 : 1 ≤ room ∧ room ≤ 65536) (hn : pages * 256 / room = n) : Calls Tryz.prog 195 #[.int .i64 start, .int .i64 pages, .int .i64 room] w (NewSpPost w start pages room n) := by
  obtain ⟨i, hi, hz0, hz1, hz2⟩ := info_parts info197
  have hnb : n ≤ 262144 := by
    have : pages * 256 / room ≤ pages * 256 := Int.ediv_le_self _ (by omega)
    omega
  have hr := run_make (P := Tryz.prog) w 193 197 i _ Tryz.underlying193 hi hz0 .i64 .i64 n n (by omega) (Int.le_refl _) (by rw [hz2]; omega) (by omega)
  rw [hz1] at hr
  simp only [Int.toNat_natCast] at hr
  rw [made_slots n] at hr
  have e1 : IntKind.i64.wrap (pages * 256) = pages * 256 := by rw [IntKind.wrap_i64]; omega
  have e2 : ¬ room = 0 := by omega
  have e3 : Int.tdiv (pages * 256) room = n := by rw [Int.tdiv_eq_ediv_of_nonneg (by omega)]; exact hn
  have e4 : IntKind.i64.wrap (n : Int) = n := by rw [IntKind.wrap_i64]; omega
  clear hz0 hz1 hz2 hi i hn
  generalize hX : (scells (List.replicate n (0, 0))).toArray = X at hr
  have HX := hid hX
  clear hX
  go_enter Tryz.func195, Tryz.ntmps195
  go_wp2
  go_ret
  refine ⟨rfl, ⟨?_, ?_⟩, (Ext.alloc [] _ _).trans (Ext.alloc [] _ _)⟩
  · rw [List.length_replicate]
    exact heap_alloc2_new w _ _
  · rw [HX.out]
    exact heap_alloc2_old w _ _

/-- The pages' owners: pointers to spans. -/
def ocells (O : List (Option Nat)) : List Value := O.map fun x => .pointer (x.map fun s => ⟨s, 0, none⟩)
/-- The owners of a heap's pages: the third cell of block h names block g. -/
structure Ow (ox : Nat) (w : World) (h g : Nat) (O : List (Option Nat)) : Prop where
  box : ∃ cs T, w.heap[h]? = some (.cells cs T (0, 0)) ∧ T ≠ 179 ∧ cs[ox + 2]? = some (.slice (some ⟨g, 0, none⟩) O.length O.length)
  row : w.heap[g]? = some (.cells (ocells O).toArray 179 (0, 0))
theorem Ow.cell {ox : Nat} {w : World} {h g : Nat} {O : List (Option Nat)} (k : Ow ox w h g O) : w.cell? ⟨h, ox + 2, none⟩ = some (.slice (some ⟨g, 0, none⟩) O.length O.length) := by
  obtain ⟨cs, T, hb, _, hc⟩ := k.box
  rw [cell_of_row _ _ _ _ _ _ hb]; exact hc
theorem Ow.at_ {ox : Nat} {w : World} {h g : Nat} {O : List (Option Nat)} (k : Ow ox w h g O) {i : Nat} (hi : i < O.length) : w.cell? ⟨g, i, none⟩ = some (.pointer ((O.getD i none).map fun s => ⟨s, 0, none⟩)) := by
  rw [cell_of_row _ _ _ _ _ _ k.row]
  simp [ocells, hi]
theorem Ow.fg {ox : Nat} {w : World} {h g : Nat} {O : List (Option Nat)} (k : Ow ox w h g O) (i : Nat) : w.frozen? ⟨g, i, none⟩ = false := frozen_of_row _ _ _ _ _ k.row
theorem Ow.ne {ox : Nat} {w : World} {h g : Nat} {O : List (Option Nat)} (k : Ow ox w h g O) : h ≠ g := by
  rintro rfl
  obtain ⟨cs, T, hb, ht, _⟩ := k.box
  have := hb.symm.trans k.row
  simp only [Option.some.injEq, Obj.cells.injEq] at this
  exact ht this.2.1
theorem Ow.keep {ox : Nat} {E : List Nat} {w w' : World} {h g : Nat} {O : List (Option Nat)} (k : Ow ox w h g O) (e : Ext E w w') (hh : h ∉ E) (hg : g ∉ E) : Ow ox w' h g O := by
  obtain ⟨cs, T, hb, ht, hc⟩ := k.box
  exact ⟨⟨cs, T, e.keep hb hh, ht, hc⟩, e.keep k.row hg⟩
theorem Ow.set {ox : Nat} {w : World} {h g : Nat} {O : List (Option Nat)} (k : Ow ox w h g O) (i : Nat) (x : Option Nat) : Ow ox (w.setCell ⟨g, i, none⟩ (.pointer (x.map fun s => ⟨s, 0, none⟩))) h g (O.set i x) := by
  obtain ⟨cs, T, hb, ht, hc⟩ := k.box
  refine ⟨⟨cs, T, (Ext.setCell [g] w ⟨g, i, none⟩ _ (by simp)).keep hb (by simpa using k.ne), ht, by rw [List.length_set]; exact hc⟩, ?_⟩
  rw [heap_setCell_same w g i _ _ _ k.row]
  congr 2
  apply Array.toList_inj.1
  simp [ocells, List.map_set]

/-- The owners with n pages from start on made x's. -/
def ownL (O : List (Option Nat)) (start : Nat) (x : Option Nat) : Nat → List (Option Nat)
  | 0 => O
  | n + 1 => (ownL O start x n).set (start + n) x
theorem ownL_len (O : List (Option Nat)) (start : Nat) (x : Option Nat) : ∀ n, (ownL O start x n).length = O.length
  | 0 => rfl
  | n + 1 => by rw [ownL, List.length_set, ownL_len O start x n]

def OwPost (ox : Nat) (w : World) (h g : Nat) (O' : List (Option Nat)) (e : Ending) (w' : World) : Prop := e = .returned (.tuple #[]) ∧ Ow ox w' h g O' ∧ Ext [g] w w'

set_option maxRecDepth 100000 in
set_option maxHeartbeats 2000000 in
theorem own_any {ox : Nat} (h g s sg : Nat) (O : List (Option Nat)) (start pages : Nat) (room used : Int) (S : List Slot) (x : Option Nat) (w : World) (hO : Ow ox w h g O) (hS : Sp w s sg start pages room used S) (hsg : s ≠ g) (hfit : start + pages ≤ O.length) (hlen : O.length ≤ 1024) :
    Calls Tryz.prog 157 #[.pointer (some ⟨h, ox, none⟩), .pointer (some ⟨s, 0, none⟩), .pointer (x.map fun s => ⟨s, 0, none⟩)] w (OwPost ox w h g (ownL O start x pages)) := by
  have HO := hid hO
  have HS := hid hS
  have c1 := hS.c1
  have HL := hid hlen
  have hOc := hO.cell
  have hsc := hS.c0
  clear hO hS
  go_enter Tryz.func157, Tryz.ntmps157
  go_wp2_with fail
  go_loopw [11] (fun q wr => ∃ i : Nat, q = .int .i64 i ∧ i ≤ pages ∧ Ow ox wr h g (ownL O start x i) ∧ Ext [g] w wr) (fun q _ => (pages - (intOf q)).toNat)
  case atStart => exact ⟨0, rfl, Nat.zero_le _, HO.out, Ext.refl _ _⟩
  case round =>
    obtain ⟨i, rfl, hip, hOi, hE⟩ := hrel
    have HOi := hid hOi
    have HE := hid hE
    by_cases hlt : i < pages
    · have hlti : (i : Int) < pages := by omega
      obtain ⟨k, hk⟩ : ∃ k : Nat, k = start + i := ⟨_, rfl⟩
      have ek : IntKind.i64.wrap ((start : Int) + i) = (k : Nat) := by rw [IntKind.wrap_i64]; omega
      have HK := hid hk
      have hll := ownL_len O start x i
      have a0 := hOi.cell
      rw [hll] at a0
      have a1 := hOi.at_ (i := k) (by omega)
      have a2 := hOi.fg k
      have a3 := hE.cell hsc (by simpa using hsg)
      have b0 := (Ext.drew [] wr).cell a0 (by simp)
      have b1 := (Ext.drew [] wr).cell a1 (by simp)
      have b3 := (Ext.drew [] wr).cell a3 (by simp)
      have b2 : wr.drew.frozen? ⟨g, k, none⟩ = false := (hOi.keep (Ext.drew [] wr) (by simp) (by simp)).fg k
      have hkl : (k : Int) < (O.length : Nat) := by omega
      have HF : Hid (Ow ox (wr.setCell ⟨g, k, none⟩ (.pointer (x.map fun s => ⟨s, 0, none⟩))).drew h g (ownL O start x (i + 1)) ∧ Ext [g] w (wr.setCell ⟨g, k, none⟩ (.pointer (x.map fun s => ⟨s, 0, none⟩))).drew) := by
        refine ⟨?_, (hE.trans (Ext.setCell _ _ _ _ (by simp))).trans (Ext.drew _ _)⟩
        rw [ownL, ← hk]
        exact (hOi.set k x).keep (Ext.drew [] _) (by simp) (by simp)
      clear hOi hE hk hll
      generalize O.length = len at *
      generalize (x.map fun s => (⟨s, 0, none⟩ : Addr)) = xp at *
      go_wp2_with fail
      go_region_law (fail)
      all_goals
        go_wp2_with fail
        exact ⟨⟨i + 1, by go_num, by omega, HF.out.1, HF.out.2⟩, by simp [intOf]; omega⟩
    · obtain rfl : i = pages := by omega
      have hnl : ¬ ((i : Int) < i) := by omega
      clear hOi hE
      go_wp2_with fail
      go_end0
      exact ⟨rfl, HOi.out, HE.out⟩

end Go.Proofs.YtbpjmcjjambdkaaGreatDoor

/-
  Heaps as plain data: runs of pages, spans with slots, bytes; no statement is proved here.
-/
namespace Go.Proofs.YtbpjmcjjambdkaaGreatDoor

/-! ### used runs -/

def used (R : List Rn) : List Rn := R.filter (·.u)
theorem used_append (A B : List Rn) : used (A ++ B) = used A ++ used B := by simp [used]
theorem used_cons_t {x : Rn} (B : List Rn) (h : x.u = true) : used (x :: B) = x :: used B := by simp [used, h]
theorem used_cons_f {x : Rn} (B : List Rn) (h : x.u = false) : used (x :: B) = used B := by simp [used, h]
theorem used_take {A B : List Rn} {x : Rn} {n : Nat} (_hu : x.u = false) : used (takeL (A ++ (x :: B)) A.length n) = used A ++ (⟨x.s, n, true⟩ :: used B) := by
  rw [takeL_eq, used_append, used_cons_t _ rfl, used_append]
  split
  · rw [used_cons_f _ rfl]; simp [used]
  · simp [used]
theorem used_rel {L : List Rn} {i : Nat} (hi : i < L.length) : used (relL L i) = used (L.take i) ++ used (L.drop (i + 1)) := by
  have e1 : used (L.take (relF L i)) = used (L.take i) := by
    by_cases hc : 0 < i ∧ (rnAt L (i - 1)).u = false
    · have e : relF L i = i - 1 := by unfold relF; rw [if_pos hc]
      obtain ⟨k, rfl⟩ : ∃ k, i = k + 1 := ⟨i - 1, by omega⟩
      rw [e, Nat.add_sub_cancel, List.take_add_one, rnAt_get (by omega), used_append]
      have : (rnAt L k).u = false := by simpa using hc.2
      simp [used, this]
    · have e : relF L i = i := by unfold relF; rw [if_neg hc]
      rw [e]
  have e2 : used (L.drop (relE L i)) = used (L.drop (i + 1)) := by
    by_cases hc : i + 1 < L.length ∧ (rnAt L (i + 1)).u = false
    · have e : relE L i = i + 1 + 1 := by unfold relE; rw [if_pos hc]
      have h1 : L.drop (i + 1) = rnAt L (i + 1) :: L.drop (i + 1 + 1) := by
        rw [List.drop_eq_getElem_cons hc.1]; simp [rnAt, List.getD, hc.1]
      rw [e, h1, used_cons_f _ hc.2]
    · have e : relE L i = i + 1 := by unfold relE; rw [if_neg hc]
      rw [e]
  unfold relL relJ
  rw [used_append, used_append, e1, e2, used_cons_f _ rfl]
  simp [used]

theorem used_sorted {pf : Bool} {a : Nat} {L : List Rn} (h : Tl pf a L) : (used L).Pairwise (fun x y => x.s + x.n ≤ y.s) := by
  induction L generalizing pf a with
  | nil => simp [used]
  | cons r L ih =>
    have h2 := ih h.2.2.2
    cases hu : r.u
    · rw [used_cons_f _ hu]; exact h2
    · rw [used_cons_t _ hu, List.pairwise_cons]
      refine ⟨fun y hy => ?_, h2⟩
      have := mem_endAt h.2.2.2 y (List.mem_filter.1 hy).1
      have := h.1
      omega

/-! ### spans -/

structure Spn where
  st : Nat
  n : Nat
  rm : Nat
  S : List Slot
deriving Inhabited

def us (S : List Slot) : Nat := S.countP (fun y => decide (0 < y.1))
def Spn.run (x : Spn) : Rn := ⟨x.st, x.n, true⟩
/-- Where slot j begins. -/
def adr (x : Spn) (j : Nat) : Nat := (x.st + 1) * 256 + j * x.rm
structure Spn.Ok (x : Spn) : Prop where
  n1 : 1 ≤ x.n
  rm8 : x.rm % 8 = 0
  rm1 : 8 ≤ x.rm
  rm2 : x.rm ≤ 65536
  kd : (x.rm ≤ 128 ∧ x.n = 1 ∧ ∃ c, c < 8 ∧ (x.rm : Int) = sz c) ∨ x.rm = x.n * 256
  len : x.S.length = x.n * 256 / x.rm
  sz : ∀ y ∈ x.S, 0 ≤ y.1 ∧ y.1 ≤ x.rm
  tg : ∀ y ∈ x.S, 0 ≤ y.2 ∧ y.2 ≤ 2147483647
  us : 1 ≤ us x.S

theorem Spn.Ok.fit {x : Spn} (h : x.Ok) : x.S.length * x.rm ≤ x.n * 256 := by rw [h.len]; exact Nat.div_mul_le_self _ _
theorem Spn.Ok.slot {x : Spn} (h : x.Ok) {j : Nat} (hj : j < x.S.length) : (j + 1) * x.rm ≤ x.n * 256 := Nat.le_trans (Nat.mul_le_mul_right _ (by omega)) h.fit
theorem Spn.Ok.len1 {x : Spn} (h : x.Ok) : 1 ≤ x.S.length := by
  have := h.us
  have h2 : Go.Proofs.YtbpjmcjjambdkaaGreatDoor.us x.S ≤ x.S.length := List.countP_le_length
  omega
theorem Spn.Ok.len2 {x : Spn} (h : x.Ok) (hn : x.n ≤ 1024) : x.S.length ≤ 65536 := by
  have h1 := h.fit
  have h2 : x.S.length * 8 ≤ x.S.length * x.rm := Nat.mul_le_mul_left _ h.rm1
  omega

/-! ### heaps -/

structure Hs where
  P : Nat
  R : List Rn
  sp : List Spn
  B : List Int

structure Hv (H : Hs) : Prop where
  inv : Inv H.P H.R
  run : H.sp.map Spn.run = used H.R
  ok : ∀ x ∈ H.sp, x.Ok
  bl : H.B.length = (H.P + 1) * 256
  bt : Bts H.B

theorem Hv.le {H : Hs} (h : Hv H) {x : Spn} (hx : x ∈ H.sp) : x.st + x.n ≤ H.P := by
  have h1 : x.run ∈ used H.R := by rw [← h.run]; exact List.mem_map_of_mem hx
  exact (h.inv.mem _ (List.mem_filter.1 h1).1).2
theorem Hv.sorted {H : Hs} (h : Hv H) : H.sp.Pairwise (fun x y => x.st + x.n ≤ y.st) := by
  have := used_sorted h.inv.tl
  rw [← h.run, List.pairwise_map] at this
  exact this
theorem Hv.P1 {H : Hs} (h : Hv H) : H.P ≤ 1024 := h.inv.le
theorem Hv.splen {H : Hs} (h : Hv H) : H.sp.length ≤ H.P := by
  have h1 : H.sp.length = (used H.R).length := by rw [← h.run]; simp
  have h2 : (used H.R).length ≤ H.R.length := List.length_filter_le _ _
  have := h.inv.len
  omega

/-- Two spans that share a page are one. -/
theorem Hv.same {H : Hs} (h : Hv H) {k l : Nat} {x y : Spn} (hx : H.sp[k]? = some x) (hy : H.sp[l]? = some y) {i : Nat} (h1 : x.st ≤ i ∧ i < x.st + x.n) (h2 : y.st ≤ i ∧ i < y.st + y.n) : k = l := by
  have hs := List.pairwise_iff_getElem.1 h.sorted
  obtain ⟨hk, rfl⟩ := List.getElem?_eq_some_iff.1 hx
  obtain ⟨hl, rfl⟩ := List.getElem?_eq_some_iff.1 hy
  rcases Nat.lt_trichotomy k l with q | q | q
  · have := hs k l hk hl q; omega
  · exact q
  · have := hs l k hl hk q; omega

/-- The span that has a page. -/
def spanAt (L : List Spn) (i : Nat) : Option Spn := L.find? fun x => decide (x.st ≤ i) && decide (i < x.st + x.n)
theorem spanAt_some {L : List Spn} {i : Nat} {x : Spn} (h : spanAt L i = some x) : x ∈ L ∧ x.st ≤ i ∧ i < x.st + x.n := by
  have h1 := List.mem_of_find?_eq_some h
  have h2 := List.find?_some h
  simp at h2
  exact ⟨h1, h2⟩
theorem Hv.spanAt {H : Hs} (h : Hv H) {x : Spn} (hx : x ∈ H.sp) {i : Nat} (h1 : x.st ≤ i) (h2 : i < x.st + x.n) : spanAt H.sp i = some x := by
  cases hq : Go.Proofs.YtbpjmcjjambdkaaGreatDoor.spanAt H.sp i with
  | none =>
    have := List.find?_eq_none.1 hq x hx
    simp at this; omega
  | some y =>
    obtain ⟨hy, h3⟩ := spanAt_some hq
    obtain ⟨k, hk⟩ := List.getElem?_of_mem hx
    obtain ⟨l, hl⟩ := List.getElem?_of_mem hy
    have := h.same hk hl ⟨h1, h2⟩ h3
    subst this
    rw [hk] at hl; cases hl; rfl

/-! ### which object has an address -/

/-- Slot j of span k holds an object of which a is a byte. -/
def At (H : Hs) (k j : Nat) (a : Int) : Prop := ∃ x y, H.sp[k]? = some x ∧ x.S[j]? = some y ∧ (adr x j : Int) ≤ a ∧ a < adr x j + y.1

/-- The plain facts of a byte of an object: its page and its slot. -/
theorem Hv.at_ {H : Hs} (h : Hv H) {k j : Nat} {a : Int} {x : Spn} {y : Slot} (hx : H.sp[k]? = some x) (hy : x.S[j]? = some y) (h1 : (adr x j : Int) ≤ a) (h2 : a < adr x j + y.1) :
    256 ≤ a ∧ a < ((H.P : Int) + 1) * 256 ∧ (∃ i : Nat, (a - 256) / 256 = i ∧ x.st ≤ i ∧ i < x.st + x.n ∧ i < H.P) ∧ (a - ((x.st : Int) + 1) * 256) / x.rm = j ∧ ((x.st : Int) + 1) * 256 ≤ a := by
  have hm : x ∈ H.sp := List.mem_of_getElem? hx
  have ho := h.ok x hm
  have hj : j < x.S.length := (List.getElem?_eq_some_iff.1 hy).1
  have hs := ho.slot hj
  have hyr := (ho.sz y (List.mem_of_getElem? hy)).2
  have hle := h.le hm
  have h8 := ho.rm1
  rw [Nat.add_mul, Nat.one_mul] at hs
  unfold adr at h1 h2
  obtain ⟨q, hq⟩ : ∃ q, q = j * x.rm := ⟨_, rfl⟩
  have hdiv : (a - ((x.st : Int) + 1) * 256) / x.rm = j := by
    rw [Int.ediv_eq_iff_of_pos (by omega)]
    have e1 : ((j : Int)) * (x.rm : Int) = (q : Nat) := by rw [hq]; simp
    constructor
    · rw [e1]; rw [← hq] at h1 h2; omega
    · rw [Int.add_mul, Int.one_mul, e1]; rw [← hq] at h1 h2; omega
  rw [← hq] at h1 h2 hs
  refine ⟨by omega, by omega, ⟨((a - 256) / 256).toNat, by omega, by omega, by omega, by omega⟩, hdiv, by omega⟩

theorem Hv.at_one {H : Hs} (h : Hv H) {k j k' j' : Nat} {a : Int} (h1 : At H k j a) (h2 : At H k' j' a) : k = k' ∧ j = j' := by
  obtain ⟨x, y, hx, hy, p1, p2⟩ := h1
  obtain ⟨x', y', hx', hy', q1, q2⟩ := h2
  obtain ⟨_, _, ⟨i, hi, i1, i2, _⟩, hj, _⟩ := h.at_ hx hy p1 p2
  obtain ⟨_, _, ⟨i', hi', i1', i2', _⟩, hj', _⟩ := h.at_ hx' hy' q1 q2
  obtain rfl : i = i' := by omega
  obtain rfl := h.same hx hx' ⟨i1, i2⟩ ⟨i1', i2'⟩
  rw [hx] at hx'; cases hx'
  exact ⟨rfl, by omega⟩

def fndS (x : Spn) (k : Nat) (a : Int) : Option (Nat × Nat) := (List.range x.S.length).findSome? fun j => match x.S[j]? with
  | none => none
  | some y => if (adr x j : Int) ≤ a ∧ a < adr x j + y.1 then some (k, j) else none
/-- The slot of the object of which a is a byte. -/
def fnd (H : Hs) (a : Int) : Option (Nat × Nat) := (List.range H.sp.length).findSome? fun k => match H.sp[k]? with
  | none => none
  | some x => fndS x k a
theorem fnd_hit {H : Hs} {k j : Nat} {a : Int} (h : fnd H a = some (k, j)) : At H k j a := by
  unfold fnd at h
  obtain ⟨k1, _, h1⟩ := List.exists_of_findSome?_eq_some h
  split at h1
  · cases h1
  · rename_i x hx
    unfold fndS at h1
    obtain ⟨j1, _, h2⟩ := List.exists_of_findSome?_eq_some h1
    split at h2
    · cases h2
    · rename_i y hy
      split at h2
      · rename_i hc
        simp only [Option.some.injEq, Prod.mk.injEq] at h2
        obtain ⟨rfl, rfl⟩ := h2
        exact ⟨x, y, hx, hy, hc.1, hc.2⟩
      · cases h2
theorem fnd_none {H : Hs} {a : Int} : fnd H a = none ↔ ∀ k j, ¬ At H k j a := by
  constructor
  · rintro h k j ⟨x, y, hx, hy, h1, h2⟩
    unfold fnd at h
    rw [List.findSome?_eq_none_iff] at h
    have h3 := h k (List.mem_range.2 (List.getElem?_eq_some_iff.1 hx).1)
    rw [hx] at h3
    simp only at h3
    unfold fndS at h3
    rw [List.findSome?_eq_none_iff] at h3
    have h4 := h3 j (List.mem_range.2 (List.getElem?_eq_some_iff.1 hy).1)
    rw [hy] at h4
    simp only at h4
    rw [if_pos ⟨h1, h2⟩] at h4
    cases h4
  · intro h
    cases hq : fnd H a with
    | none => rfl
    | some q => exact absurd (fnd_hit (k := q.1) (j := q.2) hq) (h _ _)
theorem Hv.fnd_iff {H : Hs} (h : Hv H) {k j : Nat} {a : Int} : fnd H a = some (k, j) ↔ At H k j a := by
  constructor
  · exact fnd_hit
  · intro e
    cases hq : fnd H a with
    | none => exact absurd e (fnd_none.1 hq k j)
    | some q =>
      obtain ⟨h1, h2⟩ := h.at_one (fnd_hit (k := q.1) (j := q.2) hq) e
      rw [show q = (k, j) from Prod.ext h1 h2]

end Go.Proofs.YtbpjmcjjambdkaaGreatDoor

/-
  The calls of a nil heap that give no iterator; no statement is proved here.
-/
namespace Go.Proofs.YtbpjmcjjambdkaaGreatDoor
open Go.RowKit

theorem halloc_nil (s t : Int) (w : World) (hG : Gl w) : Calls Tryz.prog 129 #[.pointer none, .int .i64 s, .int .i64 t] w fun e w' => e = .returned (.tuple #[.int .i64 0, .int .i64 2]) ∧ w' = w := by
  have K := room_any s w hG
  generalize rmV s = rv at *
  generalize pgE s = pe at *
  go_enter Tryz.func129, Tryz.ntmps129
  go_wp2_with (first | (go_at_call 163; refine met K ?_) | fail "no arm")
  all_goals
    go_ret2
    exact ⟨rfl, rfl⟩

theorem within_nil (a n : Int) (w : World) : Calls Tryz.prog 130 #[.pointer none, .int .i64 a, .int .i64 n] w fun e w' => e = .returned (.int .i64 2) ∧ w' = w := by
  go_enter Tryz.func130, Tryz.ntmps130
  go_wp2
  go_ret
  exact ⟨rfl, rfl⟩

theorem hfree_nil (a : Int) (w : World) : Calls Tryz.prog 114 #[.pointer none, .int .i64 a] w fun e w' => e = .returned (.int .i64 2) ∧ w' = w := by
  go_enter Tryz.func114, Tryz.ntmps114
  go_wp2
  go_ret
  exact ⟨rfl, rfl⟩

theorem hload_nil (a : Int) (w : World) : Calls Tryz.prog 82 #[.pointer none, .int .i64 a] w fun e w' => e = .returned (.tuple #[.int .u64 0, .int .i64 2]) ∧ w' = w := by
  go_enter Tryz.func82, Tryz.ntmps82
  go_wp2_with (first | (go_at_call 130; refine met (within_nil _ _ _) ?_) | fail "no arm")
  go_ret2
  exact ⟨rfl, rfl⟩

theorem hstore_nil (a v : Int) (w : World) : Calls Tryz.prog 147 #[.pointer none, .int .i64 a, .int .u64 v] w fun e w' => e = .returned (.int .i64 2) ∧ w' = w := by
  go_enter Tryz.func147, Tryz.ntmps147
  go_wp2_with (first | (go_at_call 130; refine met (within_nil _ _ _) ?_) | fail "no arm")
  go_ret
  exact ⟨rfl, rfl⟩

theorem hfits_nil (s : Int) (w : World) (hG : Gl w) : Calls Tryz.prog 160 #[.pointer none, .int .i64 s] w fun e w' => e = .returned (.bool false) ∧ w' = w := by
  have K := room_any s w hG
  generalize rmV s = rv at *
  generalize pgE s = pe at *
  go_enter Tryz.func160, Tryz.ntmps160
  go_wp2_with (first | (go_at_call 163; refine met K ?_) | fail "no arm")
  all_goals
    go_ret
    exact ⟨rfl, rfl⟩

end Go.Proofs.YtbpjmcjjambdkaaGreatDoor
