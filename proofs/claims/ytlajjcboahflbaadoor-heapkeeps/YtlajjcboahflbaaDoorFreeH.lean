/-
  drop, Free, Fits: an object that goes; no statement is proved here.
-/
import Derived.Test.YtlajjcboahflbaaDoorAllocI
namespace Go.Proofs.YtlajjcboahflbaaDoor
open Go.RowKit

set_option maxRecDepth 100000 in
set_option maxHeartbeats 2000000 in
theorem sdrop_any (s g : Nat) (start pages room used : Int) (S : List Slot) (k : Nat) (w : World) (hS : Sp w s g start pages room used S) (hk : k < S.length) (_hlen : S.length ≤ 65536) (hu : 0 ≤ used ∧ used ≤ 65536) :
    Calls Tryd.prog 45 #[.pointer (some ⟨s, 0, none⟩), .int .i64 k] w (TakePost w s g start pages room (used - 1) (S.set k (0, 0)) (.tuple #[])) := by
  have hc4 := hS.c4
  have hc3 := hS.c3
  have hf := hS.fr
  have hfg := hS.fg
  have hne : s ≠ g := by
    rintro rfl
    have := hS.box.symm.trans hS.row
    simp at this
  have hw : IntKind.i64.wrap (used - 1) = used - 1 := by rw [IntKind.wrap_i64]; omega
  obtain ⟨a0, a1⟩ := hS.at_ hk
  have hil : (k : Int) < (S.length : Nat) := by omega
  have hF : Hid (TakePost w s g start pages room (used - 1) (S.set k (0, 0)) (.tuple #[]) (.returned (.tuple #[])) (((w.setCell ⟨g, k * 2, none⟩ (.int .i64 0)).setCell ⟨g, k * 2 + 1, none⟩ (.int .i64 0)).setCell ⟨s, 3, none⟩ (.int .i64 (used - 1)))) :=
    ⟨rfl, hS.put hk 0 0 (used - 1), ((Ext.setCell _ _ _ _ (by simp)).trans (Ext.setCell _ _ _ _ (by simp))).trans (Ext.setCell _ _ _ _ (by simp))⟩
  clear hS
  generalize (S.getD k (0, 0)).1 = x0 at *
  generalize (S.getD k (0, 0)).2 = x1 at *
  generalize S.length = len at *
  go_enter Tryd.func45, Tryd.ntmps45
  go_wp2_with fail
  go_end0
  exact hF.out

def freeH (H : Hs) (a : Int) : Int × Hs := match fnd H a with
  | none => (4, H)
  | some (k, j) => if (adrAt H k j : Int) = a then (0, if 0 < us ((spAt H k).S.set j (0, 0)) then { H with sp := H.sp.set k (dpS (spAt H k) j) } else ⟨H.P, relL H.R (runK H.R (spAt H k).st), H.sp.eraseIdx k, H.B⟩) else (4, H)

section
variable {p ox : Nat} {T : TypeId} {cs : Array Value} {F : Nat → Prop} {H : Hs} {ag og : Nat} {V : Value} {sb : Nat → Nat × Nat} {O : List (Option Nat)}

theorem hfree_none (a : Int) (w : World) (hH : Hm w p ox T cs F H ag og V sb O) (hf : fnd H a = none) : Calls Tryd.prog 19 #[.pointer (some ⟨p, ox, none⟩), .int .i64 a] w (Qt w (.int .i64 4)) := by
  have K := find_any a w hH
  rw [hf] at K
  simp only [fdV] at K
  clear hH hf
  go_enter Tryd.func19, Tryd.ntmps19
  go_wp2_with (first | (go_at_call 32; refine K.mono ?_; clear K; rintro e w1 ⟨rfl, m, rfl⟩) | fail "no arm")
  go_ret
  exact ⟨rfl, _, rfl⟩

theorem hfree_in (a : Int) (k j : Nat) (w : World) (hH : Hm w p ox T cs F H ag og V sb O) (hf : fnd H a = some (k, j)) (hne : (adrAt H k j : Int) ≠ a) : Calls Tryd.prog 19 #[.pointer (some ⟨p, ox, none⟩), .int .i64 a] w (Qt w (.int .i64 4)) := by
  have K := find_any a w hH
  rw [hf] at K
  simp only [fdV] at K
  obtain ⟨hs, h1, h2⟩ := hH.ok.hit hf
  have KA := hH.addr_dr hs
  have hb : ((adrAt H k j : Int) == a) = false := by simpa using hne
  clear hH hf hs h1 h2
  generalize (sb (spAt H k).st).1 = s at *
  generalize adrAt H k j = ad at *
  go_enter Tryd.func19, Tryd.ntmps19
  go_wp2_with (first | (go_at_call 32; refine K.mono ?_; clear K; rintro e w1 ⟨rfl, m, rfl⟩) | (go_at_call 33; refine (KA _ (Ext.drewN _ _ _) 0).mono ?_; clear KA; rintro e w2 ⟨rfl, m2, rfl⟩) | fail "no arm")
  go_ret
  exact ⟨rfl, _, rfl⟩

set_option maxRecDepth 100000 in
set_option maxHeartbeats 4000000 in
theorem hfree_slot (k j : Nat) (w : World) (hH : Hm w p ox T cs F H ag og V sb O) (hf : fnd H (adrAt H k j) = some (k, j)) (hu : 0 < us ((spAt H k).S.set j (0, 0))) :
    Calls Tryd.prog 19 #[.pointer (some ⟨p, ox, none⟩), .int .i64 (adrAt H k j)] w (HPost w p ox T cs F { H with sp := H.sp.set k (dpS (spAt H k) j) } (.int .i64 0)) := by
  have K := find_any (adrAt H k j) w hH
  rw [hf] at K
  simp only [fdV] at K
  obtain ⟨hs, h1, h2⟩ := hH.ok.hit hf
  have KA := hH.addr_dr hs
  have hxs := hH.spans _ hs.mem
  have hP := hs.P1
  have hst := hs.st
  have hl2 := hs.ok.len2 (by omega)
  have hul := us_le (spAt H k).S
  have hud := us_set hs.jl (0, 0)
  rw [if_pos (show 0 < ((spAt H k).S.getD j (0, 0)).1 by unfold slotAt at h2; omega), if_neg (show ¬ 0 < ((0 : Int), (0 : Int)).1 by simp)] at hud
  have KD := fun u (hu : Ext [] w u) => sdrop_any _ _ _ _ _ _ _ j u (hxs.keep hu (by simp) (by simp)) hs.jl hl2 (by omega)
  have HT : Hid (∀ u w2, Ext [] w u → TakePost u (sb (spAt H k).st).1 (sb (spAt H k).st).2 (spAt H k).st (spAt H k).n (spAt H k).rm ((us (spAt H k).S : Int) - 1) ((spAt H k).S.set j (0, 0)) (.tuple #[]) (.returned (.tuple #[])) w2 →
      w2.cell? ⟨(sb (spAt H k).st).1, 3, none⟩ = some (.int .i64 (us ((spAt H k).S.set j (0, 0)) : Nat)) ∧ HPost w p ox T cs F { H with sp := H.sp.set k (dpS (spAt H k) j) } (.int .i64 0) (.returned (.int .i64 0)) w2) := by
    rintro u w2 hue ⟨_, hS, hE⟩
    have e : ((us (spAt H k).S : Int) - 1) = (us ((spAt H k).S.set j (0, 0)) : Nat) := by omega
    rw [e] at hS
    refine ⟨hS.c3, rfl, F, ⟨_, _, _, _, _, (hH.keep0 hue).slotted (spAt_get hs.kl) hE hS (hs.ok.set (by simp) (by simp) hu)⟩, ?_, fun _ h => .inl h⟩
    have hfs := hH.fs _ hs.mem
    refine (Fx.of_ext0 (B := fun k => k = p ∨ F k) hue).trans (Fx.of_ext (B := fun k => k = p ∨ F k) hE ?_) (fun y hy => .inl hy)
    simp only [List.mem_cons, List.not_mem_nil, or_false]
    rintro b (rfl | rfl)
    · exact .inl (.inr hfs.1)
    · exact .inl (.inr hfs.2)
  generalize us ((spAt H k).S.set j (0, 0)) = u2 at *
  have hu2 : (0 : Int) < u2 := by omega
  clear hud hul hl2 hst hP hxs h1 h2 hs hf hH
  generalize hsb : (sb (spAt H k).st).1 = s at *
  clear hsb
  generalize adrAt H k j = ad at *
  go_enter Tryd.func19, Tryd.ntmps19
  go_upto_region 6 with (first | (go_at_call 32; refine K.mono ?_; clear K; rintro e w1 ⟨rfl, m, rfl⟩) | (go_at_call 33; refine (KA _ (Ext.drewN _ _ _) 0).mono ?_; clear KA; rintro e w2 ⟨rfl, m2, rfl⟩) | fail "no arm")
  go_wp2_with (first | (go_at_call 45; refine (KD _ (Ext.drewN _ _ _)).mono ?_; clear KD; rintro e w3 ⟨rfl, h3⟩; have hq := hid (HT.out _ w3 (Ext.drewN _ _ _) ⟨rfl, h3.1, h3.2⟩); have c3 := hq.out.1; clear h3) | fail "no arm")
  go_ret
  exact hq.out.2

end

end Go.Proofs.YtlajjcboahflbaaDoor
