/-
  Rows of cells that are written into beside others, and the contracts that the laws of boxes ask for; no statement is proved here.
-/
import Derived.Test.YtlnncapokdoilaaDoorHolds
import Derived.Test.YtlnncapokdoilaaDoorAwakeO
import Derived.Test.YtlnncapokdoilaaDoorEq
import Derived.Test.YtlnncapokdoilaaDoorTSame
import Derived.Test.YtlnncapokdoilaaDoorRowC
namespace Go.Proofs.YtlnncapokdoilaaDoor
open Go.RowKit

theorem Co.low {P : Nat → Prop} {d : Nat} {w : World} {a : Option Addr} {l : List Cl} (h : Co P d w a l) : Co (fun b => P b ∧ b < w.heap.size) d w a l := h.imp (fun _ hb hp => ⟨hp, hb⟩)

/-- A list's own row: the block, if there is one. -/
theorem Co.row {P : Nat → Prop} {d : Nat} {w : World} {a : Option Addr} {l : List Cl} (h : Co P d w a l) : ∃ S : List Nat, (∀ b ∈ S, P b ∧ b < w.heap.size) ∧ (0 < l.length → ∃ b cs, S = [b] ∧ a = some ⟨b, 0, none⟩ ∧ w.heap[b]? = some (.cells cs 28 (0, 0)) ∧ (∀ j, j < l.length → w.cell? ⟨b, j * 4, none⟩ = some (.int .u64 (cAt l j).n)) ∧ ∀ j, j < l.length → ∃ v, w.cell? ⟨b, j * 4 + 1, none⟩ = some v) := by
  cases d with
  | zero => rw [show l = [] from h]; exact ⟨[], by simp, by simp⟩
  | succ d =>
    rcases h with ⟨_, rfl | ⟨b, cs, rfl, hp, hr, hc⟩⟩
    · exact ⟨[], by simp, by simp⟩
    · refine ⟨[b], by simp; exact ⟨hp, lt_of_heap hr⟩, fun _ => ⟨b, cs, rfl, rfl, hr, fun j hj => ?_, fun j hj => ?_⟩⟩
      · obtain ⟨ba, bc, hcl, _⟩ := hc j hj
        simpa using hcl.c0
      · obtain ⟨ba, bc, hcl, _⟩ := hc j hj
        exact ⟨_, by simpa using hcl.c1⟩

/-- The numbers of a row from k on are as they were. -/
structure Nv (w0 w : World) (S : List Nat) (a : Option Addr) (l : List Cl) (k : Nat) : Prop where
  ext : Ext S w0 w
  at_ : 0 < l.length → ∃ b cs, S = [b] ∧ a = some ⟨b, 0, none⟩ ∧ w.heap[b]? = some (.cells cs 28 (0, 0)) ∧ (∀ j, k ≤ j → j < l.length → w.cell? ⟨b, j * 4, none⟩ = some (.int .u64 (cAt l j).n))
theorem Nv.set {w0 w : World} {b : Nat} {a : Option Addr} {l : List Cl} {k : Nat} (h : Nv w0 w [b] a l k) (hk : k < l.length) (v : Value) : Nv w0 (w.setCell ⟨b, k * 4, none⟩ v) [b] a l (k + 1) := by
  obtain ⟨b', cs, hS, ha, hr, hn⟩ := h.at_ (by omega)
  obtain rfl : b = b' := by simpa using hS
  have e1 := heap_setCell_same w b (k * 4) _ _ v hr
  refine ⟨h.ext.trans (Ext.setCell _ _ _ _ (by simp)), fun _ => ⟨b, _, rfl, ha, e1, fun j hj hl => ?_⟩⟩
  have h2 := hn j (by omega) hl
  rw [cell_of_row _ _ _ _ _ _ hr] at h2
  rw [cell_of_row _ _ _ _ _ _ e1, Array.getElem?_setIfInBounds, if_neg (by omega)]
  exact h2
/-- The texts of a row are there. -/
structure Tv (w0 w : World) (S : List Nat) (a : Option Addr) (l : List Cl) : Prop where
  ext : Ext S w0 w
  at_ : 0 < l.length → ∃ b cs, S = [b] ∧ a = some ⟨b, 0, none⟩ ∧ w.heap[b]? = some (.cells cs 28 (0, 0)) ∧ (∀ j, j < l.length → ∃ v, w.cell? ⟨b, j * 4 + 1, none⟩ = some v)
theorem Tv.set {w0 w : World} {b : Nat} {a : Option Addr} {l : List Cl} (h : Tv w0 w [b] a l) {k : Nat} (hk : k < l.length) (v : Value) : Tv w0 (w.setCell ⟨b, k * 4 + 1, none⟩ v) [b] a l := by
  obtain ⟨b', cs, hS, ha, hr, hn⟩ := h.at_ (by omega)
  obtain rfl : b = b' := by simpa using hS
  have e1 := heap_setCell_same w b (k * 4 + 1) _ _ v hr
  refine ⟨h.ext.trans (Ext.setCell _ _ _ _ (by simp)), fun _ => ⟨b, _, rfl, ha, e1, fun j hl => ?_⟩⟩
  obtain ⟨x, h2⟩ := hn j hl
  rw [cell_of_row _ _ _ _ _ _ hr] at h2
  have hlt := (Array.getElem?_eq_some_iff.1 h2).1
  have hlt2 : j * 4 + 1 < (cs.setIfInBounds (k * 4 + 1) v).size := by simpa using hlt
  exact ⟨(cs.setIfInBounds (k * 4 + 1) v)[j * 4 + 1], by rw [cell_of_row _ _ _ _ _ _ e1, Array.getElem?_eq_getElem hlt2]⟩

theorem boxE_zero {ts : List Ty} {d : Nat} {t : Int} {l : List Cl} (h : boxE ts d t l = 0) : vchk ts d t l = 0 ∧ bxb (tyAt ts t).kind = true ∧ 1 + siz l ≤ 256 := by
  unfold boxE at h
  by_cases h1 : vchk ts d t l = 0
  · rw [if_neg (by simpa using h1)] at h
    by_cases h2 : bxb (tyAt ts t).kind = false
    · rw [if_pos h2] at h; omega
    · rw [if_neg h2] at h
      by_cases h3 : 256 < 1 + siz l
      · rw [if_pos h3] at h; omega
      · exact ⟨h1, by simpa using h2, by omega⟩
  · rw [if_pos h1] at h; exact absurd h h1
theorem hoE_self {ts : List Ty} {d : Nat} {t : Int} {l : List Cl} (h : boxE ts d t l = 0) : hoE ts t = 0 := by
  obtain ⟨h1, h2, _⟩ := boxE_zero h
  unfold hoE
  rw [if_neg (by simpa using (vchk_zero h1).1), if_neg (by simp [h2])]
theorem unE_self {ts : List Ty} {d : Nat} {t : Int} {l : List Cl} (h : boxE ts d t l = 0) : unE ts t t = 0 := by
  have h0 := hoE_self h
  unfold unE hoB
  rw [if_neg (by simpa using h0), h0]
  simp
theorem unE_other {ts : List Ty} {q t : Int} (h : q ≠ t) : unE ts q t ≠ 0 := by
  unfold unE hoB
  by_cases h0 : hoE ts t = 0
  · rw [if_neg (by simpa using h0), if_pos (by simp [h0]; omega)]
    decide
  · rw [if_pos h0]; exact h0
theorem hoB_iff (ts : List Ty) (q t : Int) : hoB ts q t = (hoE ts t == 0 && t == q) := by
  unfold hoB
  by_cases h0 : hoE ts t = 0
  · rw [h0]
    rw [Bool.eq_iff_iff]
    simp
    omega
  · simp [h0]
end Go.Proofs.YtlnncapokdoilaaDoor
