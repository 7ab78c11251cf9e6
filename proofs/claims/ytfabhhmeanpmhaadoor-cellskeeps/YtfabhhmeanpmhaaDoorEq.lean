/-
  The reference's Same at two lists of cells that are the same; no statement is proved here.
-/
import Derived.Test.YtfabhhmeanpmhaaDoorCell
namespace Go.Proofs.YtfabhhmeanpmhaaDoor
open Go.RowKit

set_option maxRecDepth 100000 in
set_option maxHeartbeats 4000000 in
theorem rsame_true : ∀ (d : Nat) (a a' : Option Addr) (l : List Cl) (n c c' d' : Nat) (w : World), Cs d w a l → Cs d' w a' l → l.length = n →
    Calls Tryd.prog 17 #[.slice a n c, .slice a' n c'] w (SayPost w (.bool true)) := by
  intro d
  induction d with
  | zero =>
    intro a a' l n c c' d' w hC hC' hn
    obtain rfl : l = [] := hC
    obtain rfl : n = 0 := by simpa using hn.symm
    go_enter Tryd.func17, Tryd.ntmps17
    go_wp2_with fail
    go_loopw [5] (fun q wr => q = .int .i64 0 ∧ wr = w) (fun _ _ => 0)
    case atStart => exact ⟨rfl, rfl⟩
    case round =>
      obtain ⟨rfl, rfl⟩ := hrel
      go_wp2_with fail
      go_ret
      exact ⟨rfl, Ext.refl _ _⟩
  | succ d ih =>
    intro a a' l n c c' d' w hC hC' hn
    have HC := hid hC
    have HD := hid hC'
    have HN := hid hn
    have hl := hC.len
    have HIH := hid ih
    clear hC hC' ih
    go_enter Tryd.func17, Tryd.ntmps17
    go_wp2_with fail
    go_loopw [5] (fun q wr => ∃ k : Nat, q = .int .i64 k ∧ k ≤ l.length ∧ Ext [] w wr) (fun q _ => (n - (intOf q)).toNat)
    case atStart => exact ⟨0, rfl, by omega, Ext.refl _ _⟩
    case round =>
      obtain ⟨k, rfl, hk, hE⟩ := hrel
      have HE := hid hE
      clear hE
      by_cases hlt : k < l.length
      · obtain ⟨d1, b, o, hd, rfl, hat⟩ := (HC.out.keep0 HE.out).at_ (by omega)
        obtain rfl : d1 = d := by omega
        obtain ⟨d2, b', o', hd', rfl, hat'⟩ := (HD.out.keep0 HE.out).at_ (by omega)
        obtain ⟨ba, bc, hcl, hbx⟩ := hat k hlt
        obtain ⟨ba', bc', hcl', hbx'⟩ := hat' k hlt
        have x0 := hcl.c0
        have x1 := hcl.c1
        have x2 := hcl.c2
        have x3 := hcl.c3
        have y0 := hcl'.c0
        have y1 := hcl'.c1
        have y2 := hcl'.c2
        have y3 := hcl'.c3
        have hkn : (k : Int) < n := by omega
        have hkn2 : k < n := by omega
        have K := fun v hv => HIH.out ba ba' (cAt l k).box _ bc bc' d2 v (hbx.keep0 hv) (hbx'.keep0 hv) rfl
        clear hat hat' hcl hcl' hbx hbx' hd hd' hk
        generalize (cAt l k).box.length = bn at *
        generalize (cAt l k).n = cn at *
        generalize (cAt l k).s = cs at *
        generalize (cAt l k).t = ct at *
        go_wp2_with fail
        go_region_held3 (fun w' => w'.cell? ⟨b, o + k * 4, none⟩ = some (.int .u64 cn) ∧ w'.cell? ⟨b, o + k * 4 + 1, none⟩ = some (.string cs) ∧ w'.cell? ⟨b, o + k * 4 + 2, none⟩ = some (.int .i64 ct) ∧ w'.cell? ⟨b, o + k * 4 + 3, none⟩ = some (.slice ba bn bc) ∧ w'.cell? ⟨b', o' + k * 4, none⟩ = some (.int .u64 cn) ∧ w'.cell? ⟨b', o' + k * 4 + 1, none⟩ = some (.string cs) ∧ w'.cell? ⟨b', o' + k * 4 + 2, none⟩ = some (.int .i64 ct) ∧ w'.cell? ⟨b', o' + k * 4 + 3, none⟩ = some (.slice ba' bn bc'))
          (first | exact ⟨hE1.cell ((Ext.drew [] _).cell x0 (by simp)) (by simp), hE1.cell ((Ext.drew [] _).cell x1 (by simp)) (by simp), hE1.cell ((Ext.drew [] _).cell x2 (by simp)) (by simp), hE1.cell ((Ext.drew [] _).cell x3 (by simp)) (by simp), hE1.cell ((Ext.drew [] _).cell y0 (by simp)) (by simp), hE1.cell ((Ext.drew [] _).cell y1 (by simp)) (by simp), hE1.cell ((Ext.drew [] _).cell y2 (by simp)) (by simp), hE1.cell ((Ext.drew [] _).cell y3 (by simp)) (by simp)⟩ | go_keep)
          (first | (go_at_call 17; refine (K _ (Ext.drew [] _)).mono ?_; rintro e w1 ⟨rfl, hE1⟩))
        have HE1 := hid ((HE.out.trans (Ext.drew [] wr)).trans hE1)
        clear hE1
        go_wp2_with fail
        go_roundw
        case rel => exact ⟨k + 1, by go_num, by omega, HE1.out⟩
        case measure => simp [intOf]; omega
      · obtain rfl : k = l.length := by omega
        have hkn : ¬ ((l.length : Int) < n) := by omega
        clear hlt hk
        go_wp2_with fail
        go_ret
        exact ⟨rfl, HE.out⟩

end Go.Proofs.YtfabhhmeanpmhaaDoor
