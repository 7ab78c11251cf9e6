/-
  What Insert, Delete and Grow answer, with its room; no statement is proved here.
-/
import Derived.Test.YtkknadkcpndnaaaDoorRmC
import Derived.Test.YtkknadkcpndnaaaDoorRmD
import Derived.Test.YtkknadkcpndnaaaDoorDet
import Derived.Test.YtkknadkcpndnaaaDoorGrw
import Derived.Test.YtkknadkcpndnaaaDoorWFinds
namespace Go.Proofs.YtkknadkcpndnaaaDoor.Rm
open Go.RowKit Go.Shelf
open Pr (Gp GpI sq pl)

/-- A slice of words that is nil, or the head of a row of its own with just its room. -/
def Rr (lo : Nat) (w : World) (a : Option Addr) (n c : Nat) (L : List Nat) : Prop := L.length = n ∧ ((a = none ∧ n = 0 ∧ c = 0) ∨ ∃ b, a = some ⟨b, 0, none⟩ ∧ Tw c w b L ∧ lo ≤ b)
section
variable {lo : Nat} {w w' : World} {a : Option Addr} {n c : Nat} {L : List Nat}
theorem Rr.keep {S : List Nat} (h : Rr lo w a n c L) (x : Ext S w w') (hS : ∀ b ∈ S, b < lo) : Rr lo w' a n c L := by
  refine ⟨h.1, h.2.imp id ?_⟩
  rintro ⟨b, e, hT, hb⟩
  exact ⟨b, e, hT.keep x (fun q => by have := hS b q; omega), hb⟩
theorem Rr.keep0 (h : Rr lo w a n c L) (x : Ext [] w w') : Rr lo w' a n c L := h.keep x (by simp)
theorem Rr.low {lo' : Nat} (h : Rr lo w a n c L) (hl : lo' ≤ lo) : Rr lo' w a n c L := by
  refine ⟨h.1, h.2.imp id ?_⟩
  rintro ⟨b, e, hT, hb⟩
  exact ⟨b, e, hT, by omega⟩
theorem Rr.wd (h : Rr lo w a n c L) : Wd w a L := by
  rcases h.2 with ⟨_, h2, _⟩ | ⟨b, rfl, hT, _⟩
  · exact .inl (by simp [vw, List.length_eq_zero_iff.1 (h.1.trans h2)])
  · exact hT.wd
end
def InO (T : List Nat) (G h d : Nat) (w : World) (e : Ending) (w' : World) : Prop := ∃ (O : Option (List Nat)) (ra : Option Addr) (rn rc : Nat) (er : Int), InsT T G h d O ∧ e = .returned (.tuple #[.slice ra rn rc, .int .i64 er]) ∧ Rr w.heap.size w' ra rn rc (O.getD []) ∧ rn ≤ 70000 ∧ (er = 0 ∨ rn = 0) ∧ Ext [] w w'
theorem ins_o (a : Option Addr) (c : Nat) (T : List Nat) (G h d : Nat) (hS : Sd T G) (hh : h < 18446744073709551616) (hd : d < 18446744073709551616) (w : World) (hT : Wd w a T) (hTb : Tb w) :
    Calls Tryd.prog 16 #[.slice a (3 + 17 * G) c, .int .u64 (h : Nat), .int .u64 (d : Nat)] w (InO T G h d w) := by
  have hG := hS.shp.gp.le
  refine (tinsert_any a c T G h d hS hh hd w hT hTb).mono ?_
  rintro e w' ⟨hX, ⟨T', g, c', hI, rfl, hTw, hg⟩ | ⟨hI, rfl⟩⟩
  · have hl := (ins_facts hS hh hd hI).1.shp.len
    exact ⟨some T', _, _, _, _, hI, rfl, ⟨hl, .inr ⟨g, rfl, hTw, hg⟩⟩, by omega, .inl rfl, hX⟩
  · exact ⟨none, _, _, _, _, hI, rfl, ⟨rfl, .inl ⟨rfl, rfl, rfl⟩⟩, by omega, .inr rfl, hX⟩
theorem ino_det {T : List Nat} {G h d : Nat} {O O' : Option (List Nat)} (h1 : InsT T G h d O) (h2 : InsT T G h d O') : O = O' := by
  cases O with
  | none =>
    cases O' with
    | none => rfl
    | some B => exact absurd h1 (fun q => insT_one h2 q)
  | some A =>
    cases O' with
    | none => exact absurd h2 (fun q => insT_one h1 q)
    | some B => rw [insT_det h1 h2]
def AnO (w : World) (e : Ending) (w' : World) : Prop := ∃ (L : List Nat) (ra : Option Addr) (rn rc : Nat) (er : Int), e = .returned (.tuple #[.slice ra rn rc, .int .i64 er]) ∧ Rr w.heap.size w' ra rn rc L ∧ rn ≤ 70000 ∧ Ext [] w w'
theorem del_o (a : Option Addr) (c : Nat) (T : List Nat) (G h d : Nat) (hS : Sd T G) (hh : h < 18446744073709551616) (w : World) (hT : Wd w a T) (hTb : Tb w) :
    Calls Tryd.prog 17 #[.slice a (3 + 17 * G) c, .int .u64 (h : Nat), .int .u64 (d : Nat)] w (AnO w) := by
  have hG := hS.shp.gp.le
  refine (tdelete_any a c T G h d hS hh w hT hTb).mono ?_
  rintro e w' ⟨hX, ⟨T', g, c', hI, rfl, hTw, hg⟩ | ⟨hI, rfl⟩⟩
  · have hl := (del_facts hS hI).1.shp.len
    exact ⟨T', _, _, _, _, rfl, ⟨hl, .inr ⟨g, rfl, hTw, hg⟩⟩, by omega, hX⟩
  · exact ⟨[], _, _, _, _, rfl, ⟨rfl, .inl ⟨rfl, rfl, rfl⟩⟩, by omega, hX⟩
theorem grow_o (a : Option Addr) (c : Nat) (T : List Nat) (G : Nat) (hS : Sd T G) (w : World) (hT : Wd w a T) (hTb : Tb w) :
    Calls Tryd.prog 18 #[.slice a (3 + 17 * G) c, .int .i64 16] w (AnO w) := by
  refine (tgrow_any a c T G 16 hS ⟨4, by omega, rfl⟩ w hT hTb).mono ?_
  rintro e w' ⟨hX, ⟨X, g, c', hH, rfl, hTw, hg⟩ | ⟨_, rfl⟩⟩
  · exact ⟨X, _, _, _, _, rfl, ⟨hH.sd.shp.len, .inr ⟨g, rfl, hTw, hg⟩⟩, by omega, hX⟩
  · exact ⟨[], _, _, _, _, rfl, ⟨rfl, .inl ⟨rfl, rfl, rfl⟩⟩, by omega, hX⟩
end Go.Proofs.YtkknadkcpndnaaaDoor.Rm
