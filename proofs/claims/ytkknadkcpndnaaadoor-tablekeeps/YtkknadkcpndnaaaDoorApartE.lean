/-
  What the statements' own look at memory (Book.Apart) answers of lists of words that lie apart; no statement is proved here.
-/
import Derived.Test.YtkknadkcpndnaaaDoorApartW
namespace Go.Proofs.YtkknadkcpndnaaaDoor.Ap
open Go.ChangeShapes Go.WideShapes Go.ChangeAt Go.RowKit

set_option maxRecDepth 100000 in
theorem apartInts_nil (w : World) : Calls Tryd.prog 56 #[.slice none 0 0] w fun e w' => e = .returned (.bool true) ∧ w' = w := by
  go_enter Tryd.func56, Tryd.ntmps56
  go_wp2
  go_loop [5, 4] (fun q g => q = .int .i64 0 ∧ g = .slice none 0 0) (fun _ _ => 0)
  case atStart => exact ⟨rfl, rfl⟩
  case round =>
    obtain ⟨rfl, rfl⟩ := hrel
    go_wp2
    go_loop [9] (fun q => q = .int .i64 0) (fun _ => 0)
    case atStart => rfl
    case round =>
      subst hrel
      go_wp2
      go_ret
      exact ⟨rfl, rfl⟩

set_option maxRecDepth 100000 in
theorem apartBytes_nil (w : World) : Calls Tryd.prog 58 #[.slice none 0 0] w fun e w' => e = .returned (.bool true) ∧ w' = w := by
  go_enter Tryd.func58, Tryd.ntmps58
  go_wp2
  go_loop [3] (fun q => ∃ R : Nat, q = .int .i64 R ∧ R ≤ 2) (fun q => (2 - (intOf q)).toNat)
  case atStart => exact ⟨0, rfl, by omega⟩
  case round =>
    obtain ⟨R, rfl, hR⟩ := hrel
    by_cases h2 : R < 2
    · go_wp2
      go_loop [5, 4] (fun q g => q = .int .i64 0 ∧ g = .slice none 0 0) (fun _ _ => 0)
      case atStart => exact ⟨rfl, rfl⟩
      case round =>
        obtain ⟨rfl, rfl⟩ := hrel
        go_wp2
        go_loop [10] (fun q => q = .int .i64 0) (fun _ => 0)
        case atStart => rfl
        case round =>
          subst hrel
          go_wp2
          go_round
          case rel => exact ⟨R + 1, by go_num, by omega⟩
          case measure => simp [intOf]; omega
    · go_wp2
      go_ret
      exact ⟨rfl, rfl⟩

set_option maxRecDepth 100000 in
theorem apartTexts_nil (w : World) : Calls Tryd.prog 59 #[.slice none 0 0] w fun e w' => e = .returned (.bool true) ∧ w' = w := by
  go_enter Tryd.func59, Tryd.ntmps59
  go_wp2
  go_loop [5, 4] (fun q g => q = .int .i64 0 ∧ g = .slice none 0 0) (fun _ _ => 0)
  case atStart => exact ⟨rfl, rfl⟩
  case round =>
    obtain ⟨rfl, rfl⟩ := hrel
    go_wp2
    go_loop [9] (fun q => q = .int .i64 0) (fun _ => 0)
    case atStart => rfl
    case round =>
      subst hrel
      go_wp2
      go_ret
      exact ⟨rfl, rfl⟩

/-- The answer v; only the blocks of S may have turned. -/
def ExtPost (S : List Nat) (w : World) (v : Value) (e : Ending) (w' : World) : Prop := e = .returned v ∧ Ext S w w'

set_option maxRecDepth 100000 in
theorem apart_any (k : Nat) (ia : Option Addr) (hi ni ci : Nat) (I : Nat → Option (Nat × Nat × Nat)) (w : World) (hn : ni ≤ 2097152) (hh : ia = some ⟨hi, 0, none⟩ ∨ ni = 0) (hI : Bk 23 w hi ni I)
    (c0 : w.cell? ⟨k, 0, none⟩ = some (.slice none 0 0)) (c1 : w.cell? ⟨k, 1, none⟩ = some (.slice ia ni ci)) (c2 : w.cell? ⟨k, 2, none⟩ = some (.slice none 0 0)) (c3 : w.cell? ⟨k, 3, none⟩ = some (.slice none 0 0)) (hk : k ∉ blks ni I) :
    Calls Tryd.prog 34 #[.pointer (some ⟨k, 0, none⟩)] w (ExtPost (blks ni I) w (.bool true)) := by
  have K := apartWords_any ia hi ni ci I w hn hh hI
  have H : Hid (∀ w', Ext (blks ni I) w w' → w'.cell? ⟨k, 2, none⟩ = some (.slice none 0 0) ∧ w'.cell? ⟨k, 3, none⟩ = some (.slice none 0 0)) := fun w' he => ⟨he.atCell c2 hk, he.atCell c3 hk⟩
  clear hk c3 c2 hI hh
  go_enter Tryd.func34, Tryd.ntmps34
  go_wp2_with fail
  refine met (apartInts_nil _) ?_
  go_wp2_with fail
  refine K.mono ?_
  clear K
  rintro e w1 ⟨rfl, hE1⟩
  have HE1 := hid hE1
  obtain ⟨d2, d3⟩ := H.out w1 hE1
  clear hE1 c0 c1
  go_wp2_with (first | (go_at_call 58; refine met (apartBytes_nil _) ?_) | (go_at_call 59; refine met (apartTexts_nil _) ?_))
  go_ret
  exact ⟨rfl, HE1.out⟩

end Go.Proofs.YtkknadkcpndnaaaDoor.Ap
