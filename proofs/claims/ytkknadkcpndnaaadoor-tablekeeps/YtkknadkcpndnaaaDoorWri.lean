/-
  Tables written: write, remove, insert; no statement is proved here.
-/
import Derived.Test.YtkknadkcpndnaaaDoorHelp
namespace Go.Proofs.YtkknadkcpndnaaaDoor
open Go.RowKit Go.Shelf
open Pr (Gp sq pl)
attribute [local go_sem] Oper.semAt_some run_store_func
def wr (T : List Nat) (g i b h d : Nat) : List Nat := ((T.set (3 + 17 * g) (st (cw T g) i b)).set (3 + 17 * g + 1 + 2 * i) h).set (3 + 17 * g + 2 + 2 * i) d
set_option maxRecDepth 100000 in
theorem write_any (B c : Nat) (T : List Nat) (G g i b h d : Nat) (hS : Shp T G) (hg : g < G) (hi : i < 8) (hb : b < 256) (w : World) (hT : Tw w B T) :
    Calls Tryd.prog 74 #[.slice (some ⟨B, 0, none⟩) (3 + 17 * G) c, .int .i64 (g : Nat), .int .i64 (i : Nat), .int .u8 (b : Nat), .int .u64 (h : Nat), .int .u64 (d : Nat)] w fun e w' => (∃ v, e = .returned v) ∧ Tw w' B (wr T g i b h d) ∧ Ext [B] w w' := by
  have hG := hS.gp.le
  have K1 := fun u => controlAt_any g (by omega) u
  have K2 := fun u => hashAt_any g i (by omega) (by omega) u
  have K3 := fun u => idAt_any g i (by omega) (by omega) u
  have hcw := hS.cw_lt g
  have K4 := fun u => set_ok (cw T g) i b hcw hi hb u
  have c1 := hT.cell (j := 3 + 17 * g) (by rw [hS.len]; omega)
  rw [show T.getD (3 + 17 * g) 0 = cw T g from rfl] at c1
  have f1 := hT.frozen (3 + 17 * g)
  have hT1 := hT.set (3 + 17 * g) (st (cw T g) i b) (by rw [hS.len]; omega)
  have c2 := hT1.cell (j := 3 + 17 * g + 1 + 2 * i) (by rw [List.length_set, hS.len]; omega)
  have f2 := hT1.frozen (3 + 17 * g + 1 + 2 * i)
  have hT2 := hT1.set (3 + 17 * g + 1 + 2 * i) h (by rw [List.length_set, hS.len]; omega)
  have c3 := hT2.cell (j := 3 + 17 * g + 2 + 2 * i) (by rw [List.length_set, List.length_set, hS.len]; omega)
  have f3 := hT2.frozen (3 + 17 * g + 2 + 2 * i)
  have HW := hid (show Tw _ _ (wr T g i b h d) from hT2.set (3 + 17 * g + 2 + 2 * i) d (by rw [List.length_set, List.length_set, hS.len]; omega))
  generalize wr T g i b h d = TT at *
  generalize (T.set (3 + 17 * g) (st (cw T g) i b)).getD (3 + 17 * g + 1 + 2 * i) 0 = q1 at *
  generalize ((T.set (3 + 17 * g) (st (cw T g) i b)).set (3 + 17 * g + 1 + 2 * i) h).getD (3 + 17 * g + 2 + 2 * i) 0 = q2 at *
  clear hT hS hT1 hT2
  generalize cw T g = cx at *
  go_enter Tryd.func74, Tryd.ntmps74
  go_wp2_with (first | (go_at_call 52; refine met (K1 _) ?_) | (go_at_call 90; refine met (K4 _) ?_) | (go_at_call 77; refine met (K2 _) ?_) | (go_at_call 42; refine met (K3 _) ?_))
  go_end0
  refine ⟨⟨_, rfl⟩, HW.out, ((Ext.setCell [B] _ _ _ (by simp)).trans (Ext.setCell [B] _ _ _ (by simp))).trans (Ext.setCell [B] _ _ _ (by simp))⟩
end Go.Proofs.YtkknadkcpndnaaaDoor
