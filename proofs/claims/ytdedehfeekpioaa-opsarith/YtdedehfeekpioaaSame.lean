/-
  The reference's Same at two cells with the same number alone; no statement is proved here.
-/
import Derived.Test.YtdedehfeekpioaaFloats
namespace Go.Proofs.Ytdedehfeekpioaa
open Go.RowKit

/-- A cell with a number alone, in memory. -/
structure On (w : World) (b : Nat) (n : Int) : Prop where
  c0 : w.cell? ⟨b, 0, none⟩ = some (.int .u64 n)
  c1 : w.cell? ⟨b, 1, none⟩ = some (.string ⟨#[]⟩)
  c2 : w.cell? ⟨b, 2, none⟩ = some (.int .i64 0)
  c3 : w.cell? ⟨b, 3, none⟩ = some (.slice none 0 0)
theorem On.keep {w w' : World} {b : Nat} {n : Int} (h : On w b n) (e : Ext [] w w') : On w' b n := ⟨e.cell h.c0 (by simp), e.cell h.c1 (by simp), e.cell h.c2 (by simp), e.cell h.c3 (by simp)⟩

theorem rsame_nil (w : World) : Calls Try.prog 10 #[.slice none 0 0, .slice none 0 0] w (SayPost w (.bool true)) := by
  go_enter Try.func10, Try.ntmps10
  go_wp2_with fail
  go_loopw [5] (fun q wr => q = .int .i64 0 ∧ wr = w) (fun _ _ => 0)
  case atStart => exact ⟨rfl, rfl⟩
  case round =>
    obtain ⟨rfl, rfl⟩ := hrel
    go_wp2_with fail
    go_ret
    exact ⟨rfl, Ext.refl _ _⟩
set_option maxRecDepth 100000 in
set_option maxHeartbeats 4000000 in
theorem rsame_one (b b' : Nat) (n : Int) (c c' : Nat) (w : World) (h : On w b n) (h' : On w b' n) :
    Calls Try.prog 10 #[.slice (some ⟨b, 0, none⟩) 1 c, .slice (some ⟨b', 0, none⟩) 1 c'] w (SayPost w (.bool true)) := by
  have HC := hid h
  have HD := hid h'
  clear h h'
  go_enter Try.func10, Try.ntmps10
  go_wp2_with fail
  go_loopw [5] (fun q wr => ∃ k : Nat, q = .int .i64 k ∧ k ≤ 1 ∧ Ext [] w wr) (fun q _ => (1 - (intOf q)).toNat)
  case atStart => exact ⟨0, rfl, by omega, Ext.refl _ _⟩
  case round =>
    obtain ⟨k, rfl, hk, hE⟩ := hrel
    have HE := hid hE
    have hcl := HC.out.keep hE
    have hcl' := HD.out.keep hE
    clear hE
    by_cases hlt : k < 1
    · obtain rfl : k = 0 := by omega
      have x0 := hcl.c0
      have x1 := hcl.c1
      have x2 := hcl.c2
      have x3 := hcl.c3
      have y0 := hcl'.c0
      have y1 := hcl'.c1
      have y2 := hcl'.c2
      have y3 := hcl'.c3
      have K := fun v => rsame_nil v
      clear hcl hcl' hk hlt
      go_wp2_with fail
      go_region_held3 (fun w' => w'.cell? ⟨b, 0, none⟩ = some (.int .u64 n) ∧ w'.cell? ⟨b, 1, none⟩ = some (.string ⟨#[]⟩) ∧ w'.cell? ⟨b, 2, none⟩ = some (.int .i64 0) ∧ w'.cell? ⟨b, 3, none⟩ = some (.slice none 0 0) ∧ w'.cell? ⟨b', 0, none⟩ = some (.int .u64 n) ∧ w'.cell? ⟨b', 1, none⟩ = some (.string ⟨#[]⟩) ∧ w'.cell? ⟨b', 2, none⟩ = some (.int .i64 0) ∧ w'.cell? ⟨b', 3, none⟩ = some (.slice none 0 0))
        (first | exact ⟨hE1.cell ((Ext.drew [] _).cell x0 (by simp)) (by simp), hE1.cell ((Ext.drew [] _).cell x1 (by simp)) (by simp), hE1.cell ((Ext.drew [] _).cell x2 (by simp)) (by simp), hE1.cell ((Ext.drew [] _).cell x3 (by simp)) (by simp), hE1.cell ((Ext.drew [] _).cell y0 (by simp)) (by simp), hE1.cell ((Ext.drew [] _).cell y1 (by simp)) (by simp), hE1.cell ((Ext.drew [] _).cell y2 (by simp)) (by simp), hE1.cell ((Ext.drew [] _).cell y3 (by simp)) (by simp)⟩ | go_keep)
        (first | (go_at_call 10; refine (K _).mono ?_; rintro e w1 ⟨rfl, hE1⟩))
      have HE1 := hid ((HE.out.trans (Ext.drew [] wr)).trans hE1)
      clear hE1
      go_wp2_with fail
      go_roundw
      case rel => exact ⟨1, by go_num, by omega, HE1.out⟩
      case measure => simp [intOf]
    · obtain rfl : k = 1 := by omega
      clear hlt hk hcl hcl'
      go_wp2_with fail
      go_ret
      exact ⟨rfl, HE.out⟩
end Go.Proofs.Ytdedehfeekpioaa
