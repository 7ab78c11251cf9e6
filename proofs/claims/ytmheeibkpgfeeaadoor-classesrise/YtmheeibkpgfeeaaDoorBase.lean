/-
  Worlds, the program's own table of sizes, and what each call of the layer answers; no statement is proved here.
-/
import Derived.Test.YtmheeibkpgfeeaaDoorRows
import Derived.WalkKit
import Derived.ProofKit
import Derived.Laws.CopyOwn
import Derived.Laws.OwnMore
import Derived.Deep.QuietTactic
import Derived.BigQuiet
import Derived.Deep.WholeRow
import Derived.Deep.RegionHeld3
namespace Go.Proofs.YtmheeibkpgfeeaaDoor
open Go.RowKit

theorem met {P : Program} {f : FuncId} {args : Array Value} {w : World} {v : Value} {K : Ending → World → Prop} (h : Calls P f args w fun e w' => e = .returned v ∧ w' = w) (hK : K (.returned v) w) : Calls P f args w K :=
  h.mono (by rintro _ _ ⟨rfl, rfl⟩; exact hK)
theorem hid {p : Prop} (h : p) : Hid p := h

structure Ext (S : List Nat) (w w' : World) : Prop where
  os : w'.os = w.os
  tape : w'.tape = w.tape
  output : w'.output = w.output
  size : w.heap.size ≤ w'.heap.size
  block : ∀ k, k < w.heap.size → k ∉ S → w'.heap[k]? = w.heap[k]?

theorem Ext.refl (S : List Nat) (w : World) : Ext S w w := ⟨rfl, rfl, rfl, Nat.le_refl _, fun _ _ _ => rfl⟩
theorem Ext.trans {S : List Nat} {a b c : World} (h : Ext S a b) (k : Ext S b c) : Ext S a c :=
  ⟨k.os.trans h.os, k.tape.trans h.tape, k.output.trans h.output, Nat.le_trans h.size k.size, fun i hi hs => (k.block i (Nat.lt_of_lt_of_le hi h.size) hs).trans (h.block i hi hs)⟩
theorem Ext.below {a b : World} (h : Ext [] a b) : Below a.heap.size a b := ⟨h.os, h.tape, h.output, h.size, fun k hk => h.block k hk (by simp)⟩
theorem Ext.drew (S : List Nat) (w : World) : Ext S w w.drew := ⟨rfl, rfl, rfl, Nat.le_refl _, fun _ _ _ => rfl⟩
theorem Ext.alloc (S : List Nat) (w : World) (o : Obj) : Ext S w (w.alloc o) := ⟨rfl, rfl, rfl, by simp, fun k hk _ => Below.heap_alloc w o k hk⟩
theorem lt_of_heap {w : World} {k : Nat} {o : Obj} (h : w.heap[k]? = some o) : k < w.heap.size := (Array.getElem?_eq_some_iff.1 h).1
theorem Ext.cell {S : List Nat} {w w' : World} (h : Ext S w w') {a : Addr} {v : Value} (hk : w.cell? a = some v) (hs : a.block ∉ S) : w'.cell? a = some v := by
  rw [← hk]
  exact World.cell?_of_block (h.block a.block (block_lt_of_cell hk) hs)

/-- The sizes of slots. -/
def sz (k : Nat) : Int := [8, 16, 24, 32, 48, 64, 96, 128].getD k 0
def Gl (w : World) : Prop := ∀ k, k ≤ 7 → w.cell? ⟨0, k, none⟩ = some (.int .i64 (sz k))
theorem Gl.keep0 {w w' : World} (h : Gl w) (e : Ext [] w w') : Gl w' := fun k hk => e.cell (h k hk) (by simp)

def Ok (s : Int) : Prop := 1 ≤ s ∧ s ≤ 65536
instance (s : Int) : Decidable (Ok s) := inferInstanceAs (Decidable (_ ∧ _))
def clsN (s : Int) : Nat := if s ≤ 8 then 0 else if s ≤ 16 then 1 else if s ≤ 24 then 2 else if s ≤ 32 then 3 else if s ≤ 48 then 4 else if s ≤ 64 then 5 else if s ≤ 96 then 6 else 7
def clsV (s : Int) : Int := if Ok s ∧ s ≤ 128 then clsN s else 0
def clsE (s : Int) : Int := if Ok s then (if s ≤ 128 then 0 else 6) else 2
def pgV (s : Int) : Int := if Ok s then (s + 255) / 256 else 0
def pgE (s : Int) : Int := if Ok s then 0 else 2
def rmV (s : Int) : Int := if Ok s then (if s ≤ 128 then sz (clsN s) else (s + 255) / 256 * 256) else 0
def slV (c : Int) : Int := if 0 ≤ c ∧ c ≤ 7 then sz c.toNat else 0
def slE (c : Int) : Int := if 0 ≤ c ∧ c ≤ 7 then 0 else 2
def snV (c : Int) : Int := if 0 ≤ c ∧ c ≤ 7 then 256 / sz c.toNat else 0

def SayPost (w : World) (r : Value) (e : Ending) (w' : World) : Prop := e = .returned r ∧ Ext [] w w'

theorem allowed_any (s : Int) (w : World) : Calls Tryd.prog 17 #[.int .i64 s] w fun e w' => e = .returned (.bool (decide (Ok s))) ∧ w' = w := by
  by_cases h1 : 1 ≤ s
  · by_cases h2 : s ≤ 65536
    · have h : decide (Ok s) = true := by simp [Ok, h1, h2]
      rw [h]
      go_enter Tryd.func17, Tryd.ntmps17
      go_wp2
      go_ret
      exact ⟨rfl, rfl⟩
    · have h : decide (Ok s) = false := by simp [Ok, h2]
      rw [h]
      go_enter Tryd.func17, Tryd.ntmps17
      go_wp2
      go_ret
      exact ⟨rfl, rfl⟩
  · have h : decide (Ok s) = false := by simp [Ok, h1]
    rw [h]
    go_enter Tryd.func17, Tryd.ntmps17
    go_wp2
    go_ret
    exact ⟨rfl, rfl⟩

theorem slot_any (c : Int) (w : World) (hG : Gl w) : Calls Tryd.prog 13 #[.int .i64 c] w fun e w' => e = .returned (.tuple #[.int .i64 (slV c), .int .i64 (slE c)]) ∧ w' = w := by
  by_cases h : 0 ≤ c ∧ c ≤ 7
  · obtain ⟨n, rfl⟩ : ∃ n : Nat, c = n := ⟨c.toNat, by omega⟩
    have hc := hG n (by omega)
    have hv : slV (n : Int) = sz n := by rw [slV, if_pos h]; rfl
    have he : slE (n : Int) = 0 := by rw [slE, if_pos h]
    rw [hv, he]
    clear hG hv he
    generalize sz n = z at *
    have h1 : ¬ ((n : Int) < 0) := by omega
    have h2 : ¬ (8 ≤ (n : Int)) := by omega
    have h3 : n < 8 := by omega
    clear h
    go_enter Tryd.func13, Tryd.ntmps13
    go_wp2
    go_ret2
    exact ⟨rfl, rfl⟩
  · have hv : slV c = 0 := by rw [slV, if_neg h]
    have he : slE c = 2 := by rw [slE, if_neg h]
    rw [hv, he]
    clear hG hv he
    rcases (by omega : c < 0 ∨ (¬ c < 0 ∧ 8 ≤ c)) with h1 | ⟨h1, h2⟩
    all_goals
      clear h
      go_enter Tryd.func13, Tryd.ntmps13
      go_wp2
      go_ret2
      exact ⟨rfl, rfl⟩

theorem slots_any (c : Int) (w : World) (hG : Gl w) : Calls Tryd.prog 15 #[.int .i64 c] w fun e w' => e = .returned (.tuple #[.int .i64 (snV c), .int .i64 (slE c)]) ∧ w' = w := by
  have K := slot_any c w hG
  by_cases h : 0 ≤ c ∧ c ≤ 7
  · have hv : snV c = 256 / slV c := by rw [snV, slV, if_pos h, if_pos h]
    have he : slE c = 0 := by rw [slE, if_pos h]
    have hz : slV c ≠ 0 ∧ 0 ≤ slV c ∧ slV c ≤ 128 := by
      have : c = 0 ∨ c = 1 ∨ c = 2 ∨ c = 3 ∨ c = 4 ∨ c = 5 ∨ c = 6 ∨ c = 7 := by omega
      rcases this with rfl | rfl | rfl | rfl | rfl | rfl | rfl | rfl <;> decide
    rw [hv, he]
    rw [he] at K
    clear hG hv he h
    generalize slV c = z at *
    obtain ⟨h1, h2, h3⟩ := hz
    have h4 : (z == 0) = false := by simpa using h1
    have h5 : Int.tdiv 256 z = 256 / z := Int.tdiv_eq_ediv_of_nonneg (by omega)
    have h6 : 0 ≤ 256 / z := Int.ediv_nonneg (by omega) h2
    have h7 : 256 / z ≤ 256 := by have := Int.ediv_le_self (a := 256) z (by omega); omega
    have h8 : IntKind.wrap .i64 (256 / z) = 256 / z := by
      generalize 256 / z = q at *
      rw [IntKind.wrap_i64]; omega
    go_enter Tryd.func15, Tryd.ntmps15
    go_wp2_with (go_at_call 13; refine met K ?_)
    go_ret2
    exact ⟨rfl, rfl⟩
  · have hv : slV c = 0 := by rw [slV, if_neg h]
    have hv2 : snV c = 0 := by rw [snV, if_neg h]
    have he : slE c = 2 := by rw [slE, if_neg h]
    rw [hv, he] at K
    rw [hv2, he]
    clear hG hv hv2 he h
    go_enter Tryd.func15, Tryd.ntmps15
    go_wp2_with (go_at_call 13; refine met K ?_)
    go_ret2
    exact ⟨rfl, rfl⟩

theorem pages_any (s : Int) (w : World) : Calls Tryd.prog 9 #[.int .i64 s] w fun e w' => e = .returned (.tuple #[.int .i64 (pgV s), .int .i64 (pgE s)]) ∧ w' = w := by
  have K := allowed_any s w
  by_cases h : Ok s
  · have hv : pgV s = (s + 255) / 256 := by rw [pgV, if_pos h]
    have he : pgE s = 0 := by rw [pgE, if_pos h]
    rw [hv, he]
    rw [show decide (Ok s) = true by simpa using h] at K
    obtain ⟨h1, h2⟩ := h
    clear hv he
    have e1 : IntKind.wrap .i64 (s + 256) = s + 256 := by rw [IntKind.wrap_i64]; omega
    have e2 : IntKind.wrap .i64 (s + 256 - 1) = s + 255 := by rw [IntKind.wrap_i64]; omega
    have e3 : Int.tdiv (s + 255) 256 = (s + 255) / 256 := Int.tdiv_eq_ediv_of_nonneg (by omega)
    have e4 : IntKind.wrap .i64 ((s + 255) / 256) = (s + 255) / 256 := by rw [IntKind.wrap_i64]; omega
    go_enter Tryd.func9, Tryd.ntmps9
    go_wp2_with (go_at_call 17; refine met K ?_)
    go_ret2
    exact ⟨rfl, rfl⟩
  · have hv : pgV s = 0 := by rw [pgV, if_neg h]
    have he : pgE s = 2 := by rw [pgE, if_neg h]
    rw [hv, he]
    rw [show decide (Ok s) = false by simpa using h] at K
    clear hv he h
    go_enter Tryd.func9, Tryd.ntmps9
    go_wp2_with (go_at_call 17; refine met K ?_)
    go_ret2
    exact ⟨rfl, rfl⟩

end Go.Proofs.YtmheeibkpgfeeaaDoor
