/-
  Insert: a table with one more entry; no statement is proved here.
-/
import Derived.Test.YtkknadkcpndnaaaDoorSou
import Derived.Test.YtkknadkcpndnaaaDoorNewT
namespace Go.Proofs.YtkknadkcpndnaaaDoor
open Go.RowKit Go.Shelf
open Pr (Gp GpI sq pl)
attribute [local go_sem] Oper.semAt_some run_store_func

/-- What Insert makes of a table: with one more entry, or none. -/
def InsT (T : List Nat) (G h d : Nat) : Option (List Nat) → Prop
  | some T' => ∃ g i, Fst T h G g i ∧ ¬ (mt (cw T g) 128 ≠ 0 ∧ T.getD 2 0 = 0) ∧ T' = insAt T g i h d
  | none => ∀ g i, Fst T h G g i → mt (cw T g) 128 ≠ 0 ∧ T.getD 2 0 = 0
def TInsPost (T : List Nat) (G h d : Nat) (w : World) (e : Ending) (w' : World) : Prop := Ext [] w w' ∧
  ((∃ T' g c, InsT T G h d (some T') ∧ e = .returned (.tuple #[.slice (some ⟨g, 0, none⟩) (3 + 17 * G) c, .int .i64 0]) ∧ Tw w' g T' ∧ w.heap.size ≤ g) ∨
   (InsT T G h d none ∧ e = .returned (.tuple #[.slice none 0 0, .int .i64 7])))
theorem tinsert_any (a : Option Addr) (c : Nat) (T : List Nat) (G h d : Nat) (hS : Sd T G) (hh : h < 18446744073709551616) (hd : d < 18446744073709551616) (w : World) (hT : Wd w a T) (hTb : Tb w) :
    Calls Tryd.prog 16 #[.slice a (3 + 17 * G) c, .int .u64 (h : Nat), .int .u64 (d : Nat)] w (TInsPost T G h d w) := by
  have hlen := hS.shp.len
  have hG := hS.shp.gp.le
  have hn := nfl_le T G
  rw [← hS.cnt] at hn
  have K := sound_true a c T G hS w hT
  have hne : T ≠ [] := by rintro rfl; simp at hlen; omega
  obtain ⟨b, o, rfl, hcc⟩ := hT.at_ hne
  have HT := hid hT
  have HL := hid hlen
  have HTb := hid hTb
  have HS := hid hS
  clear hcc hT hlen hS hTb
  go_enter Tryd.func16, Tryd.ntmps16
  go_wp2_with fail
  refine K.mono ?_
  clear K
  rintro _ w1 ⟨rfl, hX⟩
  have K2 := clone_any b o (3 + 17 * G) c T w1 (HT.out.keep0 hX) HL.out (by omega) (by omega)
  have HX := hid hX
  clear hX
  go_wp2_with fail
  refine K2.mono ?_
  clear K2
  rintro _ w2 ⟨g, cc, rfl, hTw, hg, hX2⟩
  have K3 := insert_any g cc G h d T HS.out.shp hh hd (by omega) w2 hTw (HTb.out.keep0 (HX.out.trans hX2))
  have hX3 := HX.out.trans hX2
  have hgw : w.heap.size ≤ g := Nat.le_trans HX.out.size hg
  have HX3 := hid hX3
  clear hX2 hX3 HX hTw hg
  go_wp2_with fail
  refine K3.mono ?_
  clear K3
  rintro e w3 ⟨hX4, hr⟩
  have hE : Ext [] w w3 := HX3.out.on hX4 (by simp; omega)
  rcases hr with ⟨g1, i1, hf, hno, rfl, hTw⟩ | ⟨rfl, _, hno⟩
  · have HF : Hid (TInsPost T G h d w (.returned (.tuple #[.slice (some ⟨g, 0, none⟩) (3 + 17 * G) cc, .int .i64 0])) w3) := ⟨hE, .inl ⟨_, g, cc, ⟨g1, i1, hf, hno, rfl⟩, rfl, hTw, hgw⟩⟩
    clear hf hno hTw hE hX4
    go_wp2
    go_ret2
    exact HF.out
  · have HF : Hid (TInsPost T G h d w (.returned (.tuple #[.slice none 0 0, .int .i64 7])) w3) := ⟨hE, .inr ⟨hno, rfl⟩⟩
    clear hno hE hX4
    go_wp2
    go_ret2
    exact HF.out
end Go.Proofs.YtkknadkcpndnaaaDoor
