/-
  Texts in memory of their own, and the program's copied; no statement is proved here.
-/
import Derived.Test.YtlnncapokdoilaaDoorSound
import Derived.Laws.IdiomStrings
import Derived.Deep.Cut
namespace Go.Proofs.YtlnncapokdoilaaDoor
open Go.RowKit

def byV (b : UInt8) : Value := .int .u8 (b.toNat : Int)
/-- A text's bytes in a row of their own. -/
structure Br (w : World) (g : Nat) (L : List UInt8) (cap : Nat) : Prop where
  cell : ∀ j (hj : j < L.length), w.cell? ⟨g, j, none⟩ = some (byV L[j])
  free : ∀ j, j < cap → (w.cell? ⟨g, j, none⟩).isSome = true ∧ w.frozen? ⟨g, j, none⟩ = false
  le : L.length ≤ cap

theorem bytes_of (s : ByteArray) (w : World) : ∃ g cap w', (convert 9 76 (.string s)).run Tryd.prog w = .ok (.slice (some ⟨g, 0, none⟩) s.size cap) w' ∧ Br w' g s.data.toList cap ∧ Ext [] w w' ∧ w.heap.size ≤ g := by
  have hc := grownCap_ge w s.size 0 5
  generalize hcap : grownCap w s.size 0 5 = cap at hc
  refine ⟨w.heap.size, cap, w.drew.alloc (.cells (bytesRow s cap) 5 ((bytesRow s cap).size, (bytesRow s cap).size + 1)), ?_, ?_, (Ext.drew _ _).trans (Ext.alloc _ _ _), Nat.le_refl _⟩
  · rw [← hcap]
    exact run_bytes_of_string (P := Tryd.prog) w 9 76 5 s Tryd.underlying9 Tryd.underlying76 Tryd.underlying5
  · have hl : s.data.toList.length = s.size := by simp
    have hsz : (bytesRow s cap).size = cap := by
      unfold bytesRow
      have : s.data.size = s.size := rfl
      simp [this]
      omega
    refine ⟨fun j hj => ?_, fun j hj => ⟨?_, ?_⟩, by omega⟩
    · have h1 := World.cell?_alloc_mark w.drew (bytesRow s cap) 5 ((bytesRow s cap).size, (bytesRow s cap).size + 1) j
      have h2 := bytesRow_at s cap j (by simpa using hj)
      exact (h1.trans h2).trans (by simp [byV])
    · have h1 := World.cell?_alloc_mark w.drew (bytesRow s cap) 5 ((bytesRow s cap).size, (bytesRow s cap).size + 1) j
      show ((w.drew.alloc (.cells (bytesRow s cap) 5 ((bytesRow s cap).size, (bytesRow s cap).size + 1))).cell? ⟨w.drew.heap.size, j, none⟩).isSome = true
      rw [h1]
      simp [hsz, hj]
    · have h1 := World.frozen?_alloc_mark w.drew (bytesRow s cap) 5 (bytesRow s cap).size ((bytesRow s cap).size + 1) j
      show (w.drew.alloc (.cells (bytesRow s cap) 5 ((bytesRow s cap).size, (bytesRow s cap).size + 1))).frozen? ⟨w.drew.heap.size, j, none⟩ = false
      rw [h1, hsz]
      simp
      omega
theorem string_of {w : World} {g cap : Nat} {L : List UInt8} (h : Br w g L cap) (c : Nat) : (convert 76 9 (.slice (some ⟨g, 0, none⟩) L.length c)).run Tryd.prog w = .ok (.string ⟨L.toArray⟩) w :=
  run_convert_bytes_back w 76 9 5 ⟨g, 0, none⟩ c L Tryd.underlying76 Tryd.underlying5 Tryd.underlying9 (fun j hj => by
    have := h.cell j hj
    rw [Addr.add_lit]
    simpa [byV] using this)

theorem toL (s : ByteArray) : (⟨s.data.toList.toArray⟩ : ByteArray) = s := by cases s; simp
theorem ownText_any (s : ByteArray) (w : World) : Calls Tryd.prog 36 #[.string s] w (SayPost w (.string s)) := by
  obtain ⟨g, cap, w1, h1, h2, h3, _⟩ := bytes_of s w
  have h4 := string_of h2 cap
  rw [toL] at h4
  have hl : s.data.toList.length = s.size := by simp
  rw [hl] at h4
  have HE := hid h3
  clear h2 h3 hl
  go_enter Tryd.func36, Tryd.ntmps36
  go_wp2_with fail
  go_ret
  exact ⟨rfl, HE.out⟩

end Go.Proofs.YtlnncapokdoilaaDoor
