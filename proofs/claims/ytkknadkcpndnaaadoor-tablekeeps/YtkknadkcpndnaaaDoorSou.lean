/-
  sound: words that are a table are told so; no statement is proved here.
-/
import Derived.Test.YtkknadkcpndnaaaDoorSnd
import Derived.Test.YtkknadkcpndnaaaDoorAllF
namespace Go.Proofs.YtkknadkcpndnaaaDoor
open Go.RowKit Go.Shelf
open Pr (Gp GpI sq pl)
attribute [local go_sem] Oper.semAt_some run_store_func

def nfl (T : List Nat) : Nat → Nat
  | 0 => 0
  | k + 1 => nfl T k + pc (fl (cw T k))
def nus (T : List Nat) : Nat → Nat
  | 0 => 0
  | k + 1 => nus T k + pc (fl (cw T k) ||| mt (cw T k) 254)
theorem pc_le (x : Nat) : pc x ≤ 8 := by
  have := List.length_filter_le (fun i => x.testBit i) (List.range 8)
  simpa [pc] using this
theorem nfl_le (T : List Nat) : ∀ k, nfl T k ≤ 8 * k
  | 0 => by simp [nfl]
  | k + 1 => by have := nfl_le T k; have := pc_le (fl (cw T k)); rw [nfl]; omega
theorem nus_le (T : List Nat) : ∀ k, nus T k ≤ 8 * k
  | 0 => by simp [nus]
  | k + 1 => by have := nus_le T k; have := pc_le (fl (cw T k) ||| mt (cw T k) 254); rw [nus]; omega
/-- The words are a sound table of G groups. -/
structure Sd (T : List Nat) (G : Nat) : Prop where
  shp : Shp T G
  ctl : ∀ g, g < G → scB (cw T g) = true
  slt : ∀ g, g < G → ssB T g = true
  cnt : T.getD 1 0 = nfl T G
  use : T.getD 2 0 + nus T G = 7 * G
  fnd : Fnd T G

theorem shaped_true (a : Option Addr) (c : Nat) (T : List Nat) (G : Nat) (hS : Shp T G) (w : World) (hT : Wd w a T) :
    Calls Tryd.prog 61 #[.slice a (3 + 17 * G) c] w fun e w' => e = .returned (.bool true) ∧ w' = w := by
  have hG := hS.gp.le
  have hlen := hS.len
  have K1 := groupsOf_any a (3 + 17 * G) c T w hT hlen (by omega) (by rw [hS.g0]; exact hG)
  have K2 := fun u => tallowed_yes G hS.gp u
  have K3 := fun u => wordsOf_any G hG u
  rw [hS.g0] at K1
  obtain ⟨b, o, rfl, hc⟩ := hT.at_ (by rintro rfl; simp at hlen; omega)
  have c0 := hc 0 (by omega)
  rw [Nat.add_zero, hS.g0] at c0
  clear hT hc hlen hS
  go_enter Tryd.func61, Tryd.ntmps61
  go_wp2_with (first | (go_at_call 62; refine met K1 ?_) | (go_at_call 49; refine met (K2 _) ?_) | (go_at_call 50; refine met (K3 _) ?_))
  go_ret
  exact ⟨rfl, rfl⟩

set_option maxRecDepth 100000 in
set_option maxHeartbeats 1000000 in
theorem sound_true (a : Option Addr) (c : Nat) (T : List Nat) (G : Nat) (hS : Sd T G) (w : World) (hT : Wd w a T) :
    Calls Tryd.prog 38 #[.slice a (3 + 17 * G) c] w (SayPost w (.bool true)) := by
  have hG := hS.shp.gp.le
  have hlen := hS.shp.len
  have K0 := shaped_true a c T G hS.shp w hT
  have K1 := fun u (hu : Ext [] w u) => groupsOf_any a (3 + 17 * G) c T u (hT.keep0 hu) hlen (by omega) (by rw [hS.shp.g0]; exact hG)
  rw [hS.shp.g0] at K1
  have K1w := K1 w (Ext.refl _ _)
  have KA := fun u (hu : Ext [] w u) => allFound_true a c T G hS.shp hS.fnd u (hT.keep0 hu)
  have KSS := fun g (hg : g < G) u (hu : Ext [] w u) => soundSlots_any a c T G g hS.shp hg u (hT.keep0 hu)
  have hne : T ≠ [] := by rintro rfl; simp at hlen; omega
  obtain ⟨b, o, rfl, hcc⟩ := hT.at_ hne
  clear hcc
  have HT := hid hT
  have HL := hid hlen
  have HS := hid hS
  have HKS := hid KSS
  have HKA := hid KA
  have HK1 := hid K1
  clear hT hlen hS KSS KA K1
  go_enter Tryd.func38, Tryd.ntmps38
  go_wp2_with (first | (go_at_call 61; refine met K0 ?_) | (go_at_call 62; refine met K1w ?_))
  clear K0 K1w
  go_loopw [3, 4, 13] (fun p q r wr => ∃ k : Nat, r = .int .i64 k ∧ k ≤ G ∧ p = .int .i64 (nfl T k : Nat) ∧ q = .int .i64 (nus T k : Nat) ∧ Ext [] w wr) (fun _ _ q _ => (G - (intOf q)).toNat)
  case atStart => exact ⟨0, rfl, Nat.zero_le _, rfl, rfl, Ext.refl _ _⟩
  case round =>
    obtain ⟨k, rfl, hk, rfl, rfl, hX⟩ := hrel
    have hnf := nfl_le T k
    have hnu := nus_le T k
    by_cases hkG : k < G
    · have hki : (k : Int) < G := by omega
      obtain ⟨_, _, heq, hc⟩ := (HT.out.keep0 hX).at_ hne
      cases heq
      have cC := hc (3 + 17 * k) (by rw [HL.out]; omega)
      rw [show T.getD (3 + 17 * k) 0 = cw T k from rfl] at cC
      have hcw := HS.out.shp.cw_lt k
      have KC := fun u => controlAt_any k (by omega) u
      have K63 := fun u => soundControl_any (cw T k) hcw u
      simp only [HS.out.ctl k hkG] at K63
      have K64 := HKS.out k hkG wr hX
      rw [HS.out.slt k hkG] at K64
      have K66 := fun u => full_any (cw T k) hcw u
      have K67 := fun u => deleted_any (cw T k) hcw u
      have K65a := fun u => ones_any (fl (cw T k)) (fl_lt256 _) u
      have hor := Nat.or_lt_two_pow (n := 8) (fl_lt256 (cw T k)) (mt_lt256 (cw T k) 254)
      have K65b := fun u => ones_any (fl (cw T k) ||| mt (cw T k) 254) hor u
      have eor := bits_or_u64_nat (fl (cw T k)) (mt (cw T k) 254) (fl_lt _) (mt_lt _ _)
      have hp1 := pc_le (fl (cw T k))
      have hp2 := pc_le (fl (cw T k) ||| mt (cw T k) 254)
      have HN1 := hid (show nfl T (k + 1) = nfl T k + pc (fl (cw T k)) from rfl)
      have HN2 := hid (show nus T (k + 1) = nus T k + pc (fl (cw T k) ||| mt (cw T k) 254) from rfl)
      have HX := hid hX
      clear hX hc
      generalize nfl T k = nf at *
      generalize nus T k = nu at *
      generalize pc (fl (cw T k)) = p1 at *
      generalize pc (fl (cw T k) ||| mt (cw T k) 254) = p2 at *
      generalize (fl (cw T k) ||| mt (cw T k) 254) = fo at *
      generalize mt (cw T k) 254 = md at *
      generalize fl (cw T k) = f at *
      generalize cw T k = cx at *
      go_wp2_with (first | (go_at_call 52; refine met (KC _) ?_) | (go_at_call 63; refine met (K63 _) ?_))
      go_at_call 64
      refine K64.mono ?_
      rintro _ w2 ⟨rfl, hX2⟩
      have HX2 := hid (HX.out.trans hX2)
      clear hX2 K64 HX cC
      go_wp2_with (first | (go_at_call 66; refine met (K66 _) ?_) | (go_at_call 67; refine met (K67 _) ?_))
      go_at_call 65
      refine met (K65a _) ?_
      go_wp2_with (first | (go_at_call 66; refine met (K66 _) ?_) | (go_at_call 67; refine met (K67 _) ?_))
      go_at_call 65
      refine met (K65b _) ?_
      go_wp2_with fail
      go_roundw
      case rel => exact ⟨k + 1, by go_num, by omega, by rw [HN1.out]; simp, by rw [HN2.out]; simp, HX2.out⟩
      case measure => simp [intOf]; omega
    · obtain rfl : k = G := by omega
      obtain ⟨_, _, heq, hc⟩ := (HT.out.keep0 hX).at_ hne
      cases heq
      have c1 := hc 1 (by rw [HL.out]; omega)
      have c2 := hc 2 (by rw [HL.out]; omega)
      have K1w := HK1.out wr hX
      have huse := HS.out.use
      rw [HS.out.cnt] at c1
      have hle : nus T k ≤ 7 * k := by omega
      obtain ⟨lf, hlf⟩ : ∃ lf, T.getD 2 0 = lf := ⟨_, rfl⟩
      rw [hlf] at c2 huse
      have hlfi : 7 * (k : Int) - (nus T k : Int) = (lf : Int) := by omega
      have KAw := HKA.out wr hX
      have HX := hid hX
      clear hX hc hlf
      generalize nfl T k = nf at *
      generalize nus T k = nu at *
      go_wp2_with (first | (go_at_call 62; refine met K1w ?_))
      refine KAw.mono ?_
      clear KAw
      rintro _ w2 ⟨rfl, hX2⟩
      have HX2 := hid (HX.out.trans hX2)
      clear hX2
      go_wp2
      go_ret
      exact ⟨rfl, HX2.out⟩
theorem len_true (a : Option Addr) (c : Nat) (T : List Nat) (G : Nat) (hS : Sd T G) (w : World) (hT : Wd w a T) :
    Calls Tryd.prog 13 #[.slice a (3 + 17 * G) c] w (SayPost w (.tuple #[.int .i64 (T.getD 1 0 : Nat), .int .i64 0])) := by
  have hlen := hS.shp.len
  have hG := hS.shp.gp.le
  have hn := nfl_le T G
  rw [← hS.cnt] at hn
  have K := sound_true a c T G hS w hT
  have hne : T ≠ [] := by rintro rfl; simp at hlen; omega
  obtain ⟨b, o, rfl, hcc⟩ := hT.at_ hne
  have HT := hid hT
  have HL := hid hlen
  clear hcc hT hlen hS
  go_enter Tryd.func13, Tryd.ntmps13
  go_wp2_with fail
  refine K.mono ?_
  clear K
  rintro _ w1 ⟨rfl, hX⟩
  obtain ⟨_, _, heq, hc⟩ := (HT.out.keep0 hX).at_ hne
  cases heq
  have c1 := hc 1 (by rw [HL.out]; omega)
  have HX := hid hX
  clear hc hX
  generalize T.getD 1 0 = en at *
  go_wp2
  go_ret2
  exact ⟨rfl, HX.out⟩
end Go.Proofs.YtkknadkcpndnaaaDoor
