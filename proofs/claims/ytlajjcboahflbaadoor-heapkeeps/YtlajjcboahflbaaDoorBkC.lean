/-
  What the statements' own look at memory does: with no lists of numbers, words and texts, and with lists of bytes that lie apart, it answers true; no statement is proved here.
-/
import Derived.Test.YtlajjcboahflbaaDoorBkB
namespace Go.Proofs.YtlajjcboahflbaaDoor.Bo
open Go.ChangeShapes Go.WideShapes Go.ChangeAt Go.RowKit

set_option maxRecDepth 100000 in
theorem apartInts_nil (w : World) : Calls Tryd.prog 54 #[.slice none 0 0] w fun e w' => e = .returned (.bool true) ∧ w' = w := by
  go_enter Tryd.func54, Tryd.ntmps54
  go_wp2
  go_loop [5, 4] (fun q g => q = .int .i64 0 ∧ g = .slice none 0 0) (fun _ _ => 0)
  case atStart => exact ⟨rfl, rfl⟩
  case round =>
    obtain ⟨rfl, rfl⟩ := hrel
    go_wp2
    go_loop [9] (fun q => q = .int .i64 0) (fun _ => 0)
    case atStart => rfl
    case round =>
      subst hrel
      go_wp2
      go_ret
      exact ⟨rfl, rfl⟩

set_option maxRecDepth 100000 in
theorem apartWords_nil (w : World) : Calls Tryd.prog 55 #[.slice none 0 0] w fun e w' => e = .returned (.bool true) ∧ w' = w := by
  go_enter Tryd.func55, Tryd.ntmps55
  go_wp2
  go_loop [5, 4] (fun q g => q = .int .i64 0 ∧ g = .slice none 0 0) (fun _ _ => 0)
  case atStart => exact ⟨rfl, rfl⟩
  case round =>
    obtain ⟨rfl, rfl⟩ := hrel
    go_wp2
    go_loop [9] (fun q => q = .int .i64 0) (fun _ => 0)
    case atStart => rfl
    case round =>
      subst hrel
      go_wp2
      go_ret
      exact ⟨rfl, rfl⟩

set_option maxRecDepth 100000 in
theorem apartTexts_nil (w : World) : Calls Tryd.prog 57 #[.slice none 0 0] w fun e w' => e = .returned (.bool true) ∧ w' = w := by
  go_enter Tryd.func57, Tryd.ntmps57
  go_wp2
  go_loop [5, 4] (fun q g => q = .int .i64 0 ∧ g = .slice none 0 0) (fun _ _ => 0)
  case atStart => exact ⟨rfl, rfl⟩
  case round =>
    obtain ⟨rfl, rfl⟩ := hrel
    go_wp2
    go_loop [9] (fun q => q = .int .i64 0) (fun _ => 0)
    case atStart => rfl
    case round =>
      subst hrel
      go_wp2
      go_ret
      exact ⟨rfl, rfl⟩

/-- The answer v; only the blocks of S may have turned. -/
def ExtPost (S : List Nat) (w : World) (v : Value) (e : Ending) (w' : World) : Prop := e = .returned v ∧ Ext S w w'

set_option maxRecDepth 100000 in
theorem apart_any (k h n : Nat) (it : Nat → Option (Nat × Nat × Nat)) (w : World) (hn : n ≤ 1048576) (hB : Bk w h n it) (c0 : w.cell? ⟨k, 0, none⟩ = some (.slice none 0 0)) (c1 : w.cell? ⟨k, 1, none⟩ = some (.slice none 0 0)) (c2 : w.cell? ⟨k, 2, none⟩ = some (.slice (some ⟨h, 0, none⟩) n n)) (c3 : w.cell? ⟨k, 3, none⟩ = some (.slice none 0 0)) (hk : k ∉ blks n it) :
    Calls Tryd.prog 26 #[.pointer (some ⟨k, 0, none⟩)] w (ExtPost (blks n it) w (.bool true)) := by
  have K := apartBytes_any h n it w hn hB
  have H3 : Hid (∀ w', Ext (blks n it) w w' → w'.cell? ⟨k, 3, none⟩ = some (.slice none 0 0)) := fun w' he => he.atCell c3 hk
  clear hB hk c3
  go_enter Tryd.func26, Tryd.ntmps26
  go_wp2_with (first
    | (go_at_call 54; refine met (apartInts_nil _) ?_)
    | (go_at_call 55; refine met (apartWords_nil _) ?_)
    | (go_at_call 56; refine K.mono ?_; rintro e w1 ⟨rfl, hE1⟩; have c3 := H3.out w1 hE1)
    | (go_at_call 57; refine met (apartTexts_nil _) ?_))
  go_ret
  exact ⟨rfl, hE1⟩

end Go.Proofs.YtlajjcboahflbaaDoor.Bo
