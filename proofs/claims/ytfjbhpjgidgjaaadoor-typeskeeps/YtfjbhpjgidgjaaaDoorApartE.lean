/-
  What the statements' own look at memory (Book.Apart) answers of lists of ints and of bytes that lie apart; no statement is proved here.
-/
import Derived.Test.YtfjbhpjgidgjaaaDoorApartB
import Derived.Test.YtfjbhpjgidgjaaaDoorApartI
namespace Go.Proofs.YtfjbhpjgidgjaaaDoor
open Go.ChangeShapes Go.WideShapes Go.ChangeAt Go.RowKit

set_option maxRecDepth 100000 in
theorem apartWords_nil (w : World) : Calls Tryd.prog 47 #[.slice none 0 0] w fun e w' => e = .returned (.bool true) ∧ w' = w := by
  go_enter Tryd.func47, Tryd.ntmps47
  go_wp2
  go_loop [5, 4] (fun q g => q = .int .i64 0 ∧ g = .slice none 0 0) (fun _ _ => 0)
  case atStart => exact ⟨rfl, rfl⟩
  case round =>
    obtain ⟨rfl, rfl⟩ := hrel
    go_wp2
    go_loop [9] (fun q => q = .int .i64 0) (fun _ => 0)
    case atStart => rfl
    case round =>
      subst hrel
      go_wp2
      go_ret
      exact ⟨rfl, rfl⟩

set_option maxRecDepth 100000 in
theorem apartTexts_nil (w : World) : Calls Tryd.prog 49 #[.slice none 0 0] w fun e w' => e = .returned (.bool true) ∧ w' = w := by
  go_enter Tryd.func49, Tryd.ntmps49
  go_wp2
  go_loop [5, 4] (fun q g => q = .int .i64 0 ∧ g = .slice none 0 0) (fun _ _ => 0)
  case atStart => exact ⟨rfl, rfl⟩
  case round =>
    obtain ⟨rfl, rfl⟩ := hrel
    go_wp2
    go_loop [9] (fun q => q = .int .i64 0) (fun _ => 0)
    case atStart => rfl
    case round =>
      subst hrel
      go_wp2
      go_ret
      exact ⟨rfl, rfl⟩

/-- The answer v; only the blocks of S may have turned. -/
def ExtPost (S : List Nat) (w : World) (v : Value) (e : Ending) (w' : World) : Prop := e = .returned v ∧ Ext S w w'

set_option maxRecDepth 100000 in
theorem apart_any (k : Nat) (ia : Option Addr) (hi ni ci : Nat) (I : Nat → Option (Nat × Nat × Nat)) (hb : Nat) (B : Nat → Option (Nat × Nat × Nat)) (w : World) (hn : ni ≤ 1000) (hh : ia = some ⟨hi, 0, none⟩ ∨ ni = 0) (hI : Bk 3 w hi ni I) (hB : ∀ w', Ext (blks ni I) w w' → Bk 5 w' hb 2 B)
    (c0 : w.cell? ⟨k, 0, none⟩ = some (.slice ia ni ci)) (c1 : w.cell? ⟨k, 1, none⟩ = some (.slice none 0 0)) (c2 : w.cell? ⟨k, 2, none⟩ = some (.slice (some ⟨hb, 0, none⟩) 2 2)) (c3 : w.cell? ⟨k, 3, none⟩ = some (.slice none 0 0)) (hk : k ∉ blks ni I) (hk2 : k ∉ blks 2 B) :
    Calls Tryd.prog 30 #[.pointer (some ⟨k, 0, none⟩)] w (ExtPost (blks ni I ++ blks 2 B) w (.bool true)) := by
  have K := apartInts_any ia hi ni ci I w hn hh hI
  have H : Hid (∀ w', Ext (blks ni I) w w' → w'.cell? ⟨k, 1, none⟩ = some (.slice none 0 0) ∧ w'.cell? ⟨k, 2, none⟩ = some (.slice (some ⟨hb, 0, none⟩) 2 2) ∧ w'.cell? ⟨k, 3, none⟩ = some (.slice none 0 0)) := fun w' he => ⟨he.atCell c1 hk, he.atCell c2 hk, he.atCell c3 hk⟩
  have HB := hid hB
  have HK2 := hid hk2
  clear hB hk c3 c1 c2 hI hk2 hh
  go_enter Tryd.func30, Tryd.ntmps30
  go_wp2_with fail
  refine K.mono ?_
  clear K
  rintro e w1 ⟨rfl, hE1⟩
  have HE1 := hid hE1
  obtain ⟨d1, d2, d3⟩ := H.out w1 hE1
  have K2 := apartBytes_any hb 2 B w1 (by omega) (HB.out w1 hE1)
  have H3 : Hid (∀ w', Ext (blks 2 B) w1 w' → w'.cell? ⟨k, 3, none⟩ = some (.slice none 0 0)) := fun w' he => he.atCell d3 HK2.out
  clear hE1 c0 d3
  go_wp2_with (go_at_call 47; refine met (apartWords_nil _) ?_)
  refine K2.mono ?_
  clear K2
  rintro e w2 ⟨rfl, hE2⟩
  have e3 := H3.out w2 hE2
  have HE2 : Hid (Ext (blks ni I ++ blks 2 B) w w2) := (HE1.out.mono (by simp; intro x hx; exact .inl hx)).trans (hE2.mono (by simp; intro x hx; exact .inr hx))
  clear hE2 d1 d2
  go_wp2_with (go_at_call 49; refine met (apartTexts_nil _) ?_)
  go_ret
  exact ⟨rfl, HE2.out⟩

end Go.Proofs.YtfjbhpjgidgjaaaDoor
