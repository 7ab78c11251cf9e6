/-
  FreeH, FreeI, New, Object, InfoH: joined by program; no statement is proved here.
-/
import Derived.Test.YtjbbomokgpoilaaGreatDoorZHD
/-
  drop, Free, Fits: an object that goes; no statement is proved here.
-/
namespace Go.Proofs.YtjbbomokgpoilaaGreatDoor
open Go.RowKit

set_option maxRecDepth 100000 in
set_option maxHeartbeats 2000000 in
theorem sdrop_any (s g : Nat) (start pages room used : Int) (S : List Slot) (k : Nat) (w : World) (hS : Sp w s g start pages room used S) (hk : k < S.length) (_hlen : S.length ≤ 65536) (hu : 0 ≤ used ∧ used ≤ 65536) :
    Calls Tryz.prog 116 #[.pointer (some ⟨s, 0, none⟩), .int .i64 k] w (TakePost w s g start pages room (used - 1) (S.set k (0, 0)) (.tuple #[])) := by
  have hc4 := hS.c4
  have hc3 := hS.c3
  have hf := hS.fr
  have hfg := hS.fg
  have hne : s ≠ g := by
    rintro rfl
    have := hS.box.symm.trans hS.row
    simp at this
  have hw : IntKind.i64.wrap (used - 1) = used - 1 := by rw [IntKind.wrap_i64]; omega
  obtain ⟨a0, a1⟩ := hS.at_ hk
  have hil : (k : Int) < (S.length : Nat) := by omega
  have hF : Hid (TakePost w s g start pages room (used - 1) (S.set k (0, 0)) (.tuple #[]) (.returned (.tuple #[])) (((w.setCell ⟨g, k * 2, none⟩ (.int .i64 0)).setCell ⟨g, k * 2 + 1, none⟩ (.int .i64 0)).setCell ⟨s, 3, none⟩ (.int .i64 (used - 1)))) :=
    ⟨rfl, hS.put hk 0 0 (used - 1), ((Ext.setCell _ _ _ _ (by simp)).trans (Ext.setCell _ _ _ _ (by simp))).trans (Ext.setCell _ _ _ _ (by simp))⟩
  clear hS
  generalize (S.getD k (0, 0)).1 = x0 at *
  generalize (S.getD k (0, 0)).2 = x1 at *
  generalize S.length = len at *
  go_enter Tryz.func116, Tryz.ntmps116
  go_wp2_with fail
  go_end0
  exact hF.out

def freeH (H : Hs) (a : Int) : Int × Hs := match fnd H a with
  | none => (4, H)
  | some (k, j) => if (adrAt H k j : Int) = a then (0, if 0 < us ((spAt H k).S.set j (0, 0)) then { H with sp := H.sp.set k (dpS (spAt H k) j) } else ⟨H.P, relL H.R (runK H.R (spAt H k).st), H.sp.eraseIdx k, H.B⟩) else (4, H)

section
variable {p ox : Nat} {T : TypeId} {cs : Array Value} {F : Nat → Prop} {H : Hs} {ag og : Nat} {V : Value} {sb : Nat → Nat × Nat} {O : List (Option Nat)}

theorem hfree_none (a : Int) (w : World) (hH : Hm w p ox T cs F H ag og V sb O) (hf : fnd H a = none) : Calls Tryz.prog 89 #[.pointer (some ⟨p, ox, none⟩), .int .i64 a] w (Qt w (.int .i64 4)) := by
  have K := find_any a w hH
  rw [hf] at K
  simp only [fdV] at K
  clear hH hf
  go_enter Tryz.func89, Tryz.ntmps89
  go_wp2_with (first | (go_at_call 73; refine K.mono ?_; clear K; rintro e w1 ⟨rfl, m, rfl⟩) | fail "no arm")
  go_ret
  exact ⟨rfl, _, rfl⟩

theorem hfree_in (a : Int) (k j : Nat) (w : World) (hH : Hm w p ox T cs F H ag og V sb O) (hf : fnd H a = some (k, j)) (hne : (adrAt H k j : Int) ≠ a) : Calls Tryz.prog 89 #[.pointer (some ⟨p, ox, none⟩), .int .i64 a] w (Qt w (.int .i64 4)) := by
  have K := find_any a w hH
  rw [hf] at K
  simp only [fdV] at K
  obtain ⟨hs, h1, h2⟩ := hH.ok.hit hf
  have KA := hH.addr_dr hs
  have hb : ((adrAt H k j : Int) == a) = false := by simpa using hne
  clear hH hf hs h1 h2
  generalize (sb (spAt H k).st).1 = s at *
  generalize adrAt H k j = ad at *
  go_enter Tryz.func89, Tryz.ntmps89
  go_wp2_with (first | (go_at_call 73; refine K.mono ?_; clear K; rintro e w1 ⟨rfl, m, rfl⟩) | (go_at_call 74; refine (KA _ (Ext.drewN _ _ _) 0).mono ?_; clear KA; rintro e w2 ⟨rfl, m2, rfl⟩) | fail "no arm")
  go_ret
  exact ⟨rfl, _, rfl⟩

set_option maxRecDepth 100000 in
set_option maxHeartbeats 4000000 in
theorem hfree_slot (k j : Nat) (w : World) (hH : Hm w p ox T cs F H ag og V sb O) (hf : fnd H (adrAt H k j) = some (k, j)) (hu : 0 < us ((spAt H k).S.set j (0, 0))) :
    Calls Tryz.prog 89 #[.pointer (some ⟨p, ox, none⟩), .int .i64 (adrAt H k j)] w (HPost w p ox T cs F { H with sp := H.sp.set k (dpS (spAt H k) j) } (.int .i64 0)) := by
  have K := find_any (adrAt H k j) w hH
  rw [hf] at K
  simp only [fdV] at K
  obtain ⟨hs, h1, h2⟩ := hH.ok.hit hf
  have KA := hH.addr_dr hs
  have hxs := hH.spans _ hs.mem
  have hP := hs.P1
  have hst := hs.st
  have hl2 := hs.ok.len2 (by omega)
  have hul := us_le (spAt H k).S
  have hud := us_set hs.jl (0, 0)
  rw [if_pos (show 0 < ((spAt H k).S.getD j (0, 0)).1 by unfold slotAt at h2; omega), if_neg (show ¬ 0 < ((0 : Int), (0 : Int)).1 by simp)] at hud
  have KD := fun u (hu : Ext [] w u) => sdrop_any _ _ _ _ _ _ _ j u (hxs.keep hu (by simp) (by simp)) hs.jl hl2 (by omega)
  have HT : Hid (∀ u w2, Ext [] w u → TakePost u (sb (spAt H k).st).1 (sb (spAt H k).st).2 (spAt H k).st (spAt H k).n (spAt H k).rm ((us (spAt H k).S : Int) - 1) ((spAt H k).S.set j (0, 0)) (.tuple #[]) (.returned (.tuple #[])) w2 →
      w2.cell? ⟨(sb (spAt H k).st).1, 3, none⟩ = some (.int .i64 (us ((spAt H k).S.set j (0, 0)) : Nat)) ∧ HPost w p ox T cs F { H with sp := H.sp.set k (dpS (spAt H k) j) } (.int .i64 0) (.returned (.int .i64 0)) w2) := by
    rintro u w2 hue ⟨_, hS, hE⟩
    have e : ((us (spAt H k).S : Int) - 1) = (us ((spAt H k).S.set j (0, 0)) : Nat) := by omega
    rw [e] at hS
    refine ⟨hS.c3, rfl, F, ⟨_, _, _, _, _, (hH.keep0 hue).slotted (spAt_get hs.kl) hE hS (hs.ok.set (by simp) (by simp) hu)⟩, ?_, fun _ h => .inl h⟩
    have hfs := hH.fs _ hs.mem
    refine (Fx.of_ext0 (B := fun k => k = p ∨ F k) hue).trans (Fx.of_ext (B := fun k => k = p ∨ F k) hE ?_) (fun y hy => .inl hy)
    simp only [List.mem_cons, List.not_mem_nil, or_false]
    rintro b (rfl | rfl)
    · exact .inl (.inr hfs.1)
    · exact .inl (.inr hfs.2)
  generalize us ((spAt H k).S.set j (0, 0)) = u2 at *
  have hu2 : (0 : Int) < u2 := by omega
  clear hud hul hl2 hst hP hxs h1 h2 hs hf hH
  generalize hsb : (sb (spAt H k).st).1 = s at *
  clear hsb
  generalize adrAt H k j = ad at *
  go_enter Tryz.func89, Tryz.ntmps89
  go_upto_region 6 with (first | (go_at_call 73; refine K.mono ?_; clear K; rintro e w1 ⟨rfl, m, rfl⟩) | (go_at_call 74; refine (KA _ (Ext.drewN _ _ _) 0).mono ?_; clear KA; rintro e w2 ⟨rfl, m2, rfl⟩) | fail "no arm")
  go_wp2_with (first | (go_at_call 116; refine (KD _ (Ext.drewN _ _ _)).mono ?_; clear KD; rintro e w3 ⟨rfl, h3⟩; have hq := hid (HT.out _ w3 (Ext.drewN _ _ _) ⟨rfl, h3.1, h3.2⟩); have c3 := hq.out.1; clear h3) | fail "no arm")
  go_ret
  exact hq.out.2

end

end Go.Proofs.YtjbbomokgpoilaaGreatDoor

/-
  Free where the last object of a span goes; Fits; no statement is proved here.
-/
namespace Go.Proofs.YtjbbomokgpoilaaGreatDoor
open Go.RowKit

section
variable {p ox : Nat} {T : TypeId} {cs : Array Value} {F : Nat → Prop} {H : Hs} {ag og : Nat} {V : Value} {sb : Nat → Nat × Nat} {O : List (Option Nat)}

set_option maxRecDepth 100000 in
set_option maxHeartbeats 8000000 in
theorem hfree_span (k j : Nat) (w : World) (hH : Hm w p ox T cs F H ag og V sb O) (hf : fnd H (adrAt H k j) = some (k, j)) (hu : ¬ 0 < us ((spAt H k).S.set j (0, 0))) :
    Calls Tryz.prog 89 #[.pointer (some ⟨p, ox, none⟩), .int .i64 (adrAt H k j)] w (HPost w p ox T cs F ⟨H.P, relL H.R (runK H.R (spAt H k).st), H.sp.eraseIdx k, H.B⟩ (.int .i64 0)) := by
  have K := find_any (adrAt H k j) w hH
  rw [hf] at K
  simp only [fdV] at K
  obtain ⟨hs, h1, h2⟩ := hH.ok.hit hf
  have KA := hH.addr_dr hs
  have hxs := hH.spans _ hs.mem
  have hP := hs.P1
  have hst := hs.st
  have hl2 := hs.ok.len2 (by omega)
  have hul := us_le (spAt H k).S
  have hud := us_set hs.jl (0, 0)
  rw [if_pos (show 0 < ((spAt H k).S.getD j (0, 0)).1 by unfold slotAt at h2; omega), if_neg (show ¬ 0 < ((0 : Int), (0 : Int)).1 by simp)] at hud
  have KD := fun u (hu : Ext [] w u) => sdrop_any _ _ _ _ _ _ _ j u (hxs.keep hu (by simp) (by simp)) hs.jl hl2 (by omega)
  have hus1 : ((us (spAt H k).S : Int) - 1) = 0 := by omega
  rw [hus1] at KD
  have hos := ty_ne hH.owners hxs.box (by decide)
  have hog := ty_ne hH.owners hxs.row (by decide)
  have hps := ty_ne hH.box.at_ hxs.box hH.ty.2.2.1
  have hpg := ty_ne hH.box.at_ hxs.row hH.ty.2.2.2
  have hpo := ty_ne hH.box.at_ hH.owners hH.ty.2.1
  obtain ⟨rk1, rk2, rk3, rk4, rk5⟩ := hH.ok.runK hs.mem
  have hRl := hH.ok.inv.len
  -- the pages' owners
  have KO : Hid (∀ u w2, Ext [] w u → Sp w2 (sb (spAt H k).st).1 (sb (spAt H k).st).2 (spAt H k).st (spAt H k).n (spAt H k).rm 0 ((spAt H k).S.set j (0, 0)) → Ext [(sb (spAt H k).st).1, (sb (spAt H k).st).2] u w2 →
      Calls Tryz.prog 117 #[.pointer (some ⟨p, ox, none⟩), .pointer (some ⟨(sb (spAt H k).st).1, 0, none⟩), .pointer none] w2 (OwPost ox w2 p og (ownL O (spAt H k).st none (spAt H k).n))) := fun u w2 hue hS hE => by
    have hOw : Ow ox w2 p og O := ((hH.keep0 hue).ow).keep hE (by simp [hps, hpg]) (by simp [hos, hog])
    exact own_any p og _ _ O (spAt H k).st (spAt H k).n _ _ _ none w2 hOw hS (Ne.symm hos) (by rw [hH.olen]; exact hst) (by rw [hH.olen]; exact hP)
  -- the runs
  have hRk : ∀ u w2 w3, Ext [] w u → Ext [(sb (spAt H k).st).1, (sb (spAt H k).st).2] u w2 → Ext [og] w2 w3 → ∀ w4, Ext [] w3 w4 → Rs T ox cs w4 p V H.R := fun u w2 w3 hue hE hE3 w4 hE4 => by
    have a1 : Rs T ox cs w2 p V H.R := ((hH.keep0 hue).rs).keep hE (by simp [hps, hpg]) (fun b hb hv => by
      simp only [List.mem_cons, List.not_mem_nil, or_false] at hb
      rcases hb with rfl | rfl
      · exact own_ne hH.runs hxs.box (by decide) hv
      · exact own_ne hH.runs hxs.row (by decide) hv)
    exact (a1.keep hE3 (by simpa using hpo) (fun b hb hv => by
      simp only [List.mem_singleton] at hb
      subst hb
      exact own_ne hH.runs hH.owners (by decide) hv)).keep0 hE4
  have KF : Hid (∀ u w2 w3, Ext [] w u → Ext [(sb (spAt H k).st).1, (sb (spAt H k).st).2] u w2 → Ext [og] w2 w3 → ∀ w4, Ext [] w3 w4 → Calls Tryz.prog 118 #[.pointer (some ⟨p, ox + 1, none⟩), .int .i64 ((spAt H k).st : Int)] w4 (AlPost T ox cs w4 p V (relL H.R (runK H.R (spAt H k).st)) (.tuple #[.int .i64 (spAt H k).n, .int .i64 0]))) := fun u w2 w3 hue hE hE3 w4 hE4 => by
    have := free_hit p (runK H.R (spAt H k).st) ((spAt H k).st : Int) V H.R w4 (hRk u w2 w3 hue hE hE3 w4 hE4) rk1 rk2 (by omega) hH.ok.inv.few (fun i hi => (rk5 i hi).imp id (fun q h => q (by omega))) (by omega)
    rw [rk4] at this
    exact this
  have HF : Hid (∀ u w2 w3 w4 w5, Ext [] w u → Ext [(sb (spAt H k).st).1, (sb (spAt H k).st).2] u w2 → OwPost ox w2 p og (ownL O (spAt H k).st none (spAt H k).n) (.returned (.tuple #[])) w3 → Ext [] w3 w4 → AlPost T ox cs w4 p V (relL H.R (runK H.R (spAt H k).st)) (.tuple #[.int .i64 (spAt H k).n, .int .i64 0]) (.returned (.tuple #[.int .i64 (spAt H k).n, .int .i64 0])) w5 →
      HPost w p ox T cs F ⟨H.P, relL H.R (runK H.R (spAt H k).st), H.sp.eraseIdx k, H.B⟩ (.int .i64 0) (.returned (.int .i64 0)) w5) := by
    rintro u w2 w3 w4 w5 hue hE2 ⟨_, hOw, hE3⟩ hE4 ⟨V', _, hR, hON, hX⟩
    have z1 := hue.size
    have z2 := hE2.size
    have z3 := hE3.size
    have z4 := hE4.size
    have hall : Ext ((sb (spAt H k).st).1 :: (sb (spAt H k).st).2 :: p :: og :: V.ownBlock.toList) w w5 := by
      refine (((((hue.mono (by simp)).trans (hE2.mono ?_)).trans (hE3.mono ?_)).trans (hE4.mono (by simp))).trans (hX.mono ?_))
      · simp
      · simp
      · intro b hb
        simp only [List.mem_cons] at hb ⊢
        rcases hb with rfl | hb
        · exact .inr (.inr (.inl rfl))
        · exact .inr (.inr (.inr (.inr hb)))
    have hro : w5.heap[og]? = some (.cells (ocells (ownL O (spAt H k).st none (spAt H k).n)).toArray 128 (0, 0)) := by
      have q4 := hE4.keep hOw.row (by simp)
      refine hX.keep q4 ?_
      simp only [List.mem_cons, Option.mem_toList, not_or]
      refine ⟨Ne.symm hpo, fun hv => ?_⟩
      exact own_ne (hRk u w2 w3 hue hE2 hE3 w4 hE4).row q4 (by decide) hv
    refine ⟨rfl, _, ⟨_, _, _, _, _, hH.shed (spAt_get hs.kl) hall hR (hON.imp id (fun q g hg => by have := q g hg; omega)) hro⟩, Fx.of_ext hall ?_, fun _ h => h⟩
    have hfs := hH.fs _ hs.mem
    simp only [List.mem_cons, Option.mem_toList]
    rintro b (rfl | rfl | rfl | rfl | hb)
    · exact .inl (.inr hfs.1)
    · exact .inl (.inr hfs.2)
    · exact .inl (.inl rfl)
    · exact .inl (.inr hH.fo)
    · exact .inl (.inr (hH.fv b hb))
  have hos2 : (sb (spAt H k).st).1 ≠ og := Ne.symm hos
  have hsx : Hid ((sb (spAt H k).st).1 ∉ p :: V.ownBlock.toList) := by
    show _ ∉ _
    simp only [List.mem_cons, not_or]
    exact ⟨Ne.symm hps, hH.vown hxs.box (by decide)⟩
  clear hRk rk1 rk2 rk3 rk4 rk5 hRl hud hul hl2 hst hP hxs h1 h2 hs hf hpo hpg hps hog hus1 hu
  clear hos hH
  generalize relL H.R (runK H.R (spAt H k).st) = R' at *
  generalize H.sp.eraseIdx k = L' at *
  generalize ownL O (spAt H k).st none (spAt H k).n = O' at *
  generalize (spAt H k).S.set j (0, 0) = S' at *
  generalize (sb (spAt H k).st).1 = s at *
  generalize (sb (spAt H k).st).2 = g at *
  generalize (spAt H k).st = st at *
  generalize (spAt H k).n = n at *
  generalize adrAt H k j = ad at *
  go_enter Tryz.func89, Tryz.ntmps89
  go_upto_region 6 with (first | (go_at_call 73; refine K.mono ?_; clear K; rintro e w1 ⟨rfl, m, rfl⟩) | (go_at_call 74; refine (KA _ (Ext.drewN _ _ _) 0).mono ?_; clear KA; rintro e w2 ⟨rfl, m2, rfl⟩) | fail "no arm")
  obtain ⟨u, hu⟩ : ∃ u, u = w.drewN (m + m2) := ⟨_, rfl⟩
  rw [← hu]
  have hue : Hid (Ext [] w u) := by show Ext [] w u; rw [hu]; exact Ext.drewN _ _ _
  have KD1 := KD u hue.out
  clear KD hu
  go_upto_region 10 with (first | (go_at_call 116; refine KD1.mono ?_; clear KD1; rintro e w3 ⟨rfl, hS3, hE3⟩; have c3 := hS3.c3; have c0 := hS3.c0; have KO3 := KO.out u w3 hue.out hS3 hE3; replace hS3 := hid hS3; replace hE3 := hid hE3) | (go_at_call 117; refine KO3.mono ?_; clear KO3; rintro e w4 ⟨rfl, hOw, hE4⟩; replace hOw := hid hOw; replace hE4 := hid hE4; clear c3) | fail "no arm")
  have d0 := hE4.out.cell c0 (by simpa using hos2)
  clear c0
  have KF4 := hid (KF.out u w3 w4 hue.out hE3.out hE4.out)
  clear KF KO
  go_region_held3 (fun w' => w'.cell? ⟨s, 0, none⟩ = some (.int .i64 (st : Nat))) (first | exact h5.out.2.2.cell ((Ext.drew [] _).cell d0 (by simp)) hsx.out | go_keep)
    (first | (go_at_call 118; refine (KF4.out _ (Ext.drew [] _)).mono ?_; rintro e w5 ⟨V5, rfl, h5⟩; replace h5 := hid h5) | fail "no arm")
  go_wp2_with fail
  go_ret
  exact HF.out u w3 w4 _ w5 hue.out hE3.out ⟨rfl, hOw.out, hE4.out⟩ (Ext.drew [] _) ⟨V5, rfl, h5.out⟩

theorem hfree_any (a : Int) (w : World) (hH : Hw w p ox T cs F H) : Calls Tryz.prog 89 #[.pointer (some ⟨p, ox, none⟩), .int .i64 a] w (HPost w p ox T cs F (freeH H a).2 (.int .i64 (freeH H a).1)) := by
  obtain ⟨ag, og, V, sb, O, hH⟩ := hH
  unfold freeH
  split
  · rename_i hf
    exact (hfree_none a w hH hf).mono (by rintro _ _ ⟨rfl, m, rfl⟩; exact hpost_keep hH (Ext.drewN _ _ _) _)
  · rename_i k j hf
    split
    · rename_i he
      subst he
      simp only
      split
      · exact hfree_slot k j w hH hf ‹_›
      · exact hfree_span k j w hH hf ‹_›
    · exact (hfree_in a k j w hH hf ‹_›).mono (by rintro _ _ ⟨rfl, m, rfl⟩; exact hpost_keep hH (Ext.drewN _ _ _) _)

/-- Is there room? -/
def fitsH (H : Hs) (size : Int) : Bool := decide (Ok size) && ((H.sp.findIdx? (fitS (roomN size))).isSome || decide (pgN size ≤ big H.R))

theorem big_hole (R : List Rn) (n : Nat) (h1 : 1 ≤ n) : (hole R n).isSome = decide (n ≤ big R) := by
  have key : ∀ (L : List Rn) (m : Nat), (n ≤ L.foldl (fun m r => if r.u then m else max m r.n) m) ↔ (n ≤ m ∨ ∃ r ∈ L, r.u = false ∧ n ≤ r.n) := by
    intro L
    induction L with
    | nil => intro m; simp
    | cons r L ih =>
      intro m
      rw [List.foldl_cons, ih]
      cases hu : r.u
      · simp only [Bool.false_eq_true, if_false, List.mem_cons, exists_eq_or_imp, hu, true_and]
        rw [show n ≤ max m r.n ↔ n ≤ m ∨ n ≤ r.n by omega, or_assoc]
      · simp only [if_true, List.mem_cons, exists_eq_or_imp, hu]
        simp
  unfold big hole
  rw [List.findIdx?_isSome]
  have := key R 0
  rw [Bool.eq_iff_iff]
  simp only [List.any_eq_true, decide_eq_true_eq, Bool.and_eq_true, Bool.not_eq_true']
  rw [this]
  constructor
  · rintro ⟨r, hr, h⟩; exact .inr ⟨r, hr, h⟩
  · rintro (h | ⟨r, hr, h⟩)
    · omega
    · exact ⟨r, hr, h⟩

set_option maxRecDepth 100000 in
set_option maxHeartbeats 4000000 in
theorem hfits_any (size : Int) (w : World) (hG : Gl w) (hH : Hw w p ox T cs F H) : Calls Tryz.prog 56 #[.pointer (some ⟨p, ox, none⟩), .int .i64 size] w (SayPost w (.bool (fitsH H size))) := by
  obtain ⟨ag, og, V, sb, O, hH⟩ := hH
  have K := room_any size w hG
  unfold fitsH
  by_cases hO : Ok size
  · obtain ⟨r1, r2, p1, p2, _⟩ := room_ok hO
    have hpe : pgE size = 0 := by unfold pgE; rw [if_pos hO]
    have KP := fun u => pages_any size u
    rw [hpe, r2] at KP
    rw [hpe, r1] at K
    have KO := open_any (roomN size) w hH
    have hRl := hH.ok.inv.len
    have hP := hH.ok.P1
    have KL := fun u (hu : Ext [] w u) => largest_of (some ⟨p, ox + 1, none⟩) V H.R u (nowOf_any (hH.keep0 hu).rs) (hH.keep0 hu).runs (by omega)
    simp only [hO, decide_true, Bool.true_and]
    cases hk : H.sp.findIdx? (fitS (roomN size)) with
    | some k =>
      obtain ⟨x, hx, hf, _⟩ := findIdx_find hk
      rw [hf] at KO
      replace KO : Calls Tryz.prog 92 #[.pointer (some ⟨p, ox, none⟩), .int .i64 (roomN size)] w (fun e w' => e = .returned (.pointer (some ⟨(sb x.st).1, 0, none⟩)) ∧ Ext [] w w') := KO
      simp only [Option.isSome_some, Bool.true_or]
      clear hH hk hf hx hO r1 r2 hpe KL
      generalize (sb x.st).1 = s at *
      generalize roomN size = rm at *
      generalize pgN size = n at *
      go_enter Tryz.func56, Tryz.ntmps56
      go_wp2_with (first | (go_at_call 90; refine met K ?_) | (go_at_call 91; refine met (KP _) ?_) | (go_at_call 92; refine KO.mono ?_; clear KO; rintro e w1 ⟨rfl, hE1⟩; replace hE1 := hid hE1) | fail "no arm")
      go_ret
      exact ⟨rfl, hE1.out⟩
    | none =>
      rw [findIdx_none hk] at KO
      replace KO : Calls Tryz.prog 92 #[.pointer (some ⟨p, ox, none⟩), .int .i64 (roomN size)] w (fun e w' => e = .returned (.pointer none) ∧ Ext [] w w') := KO
      simp only [Option.isSome_none, Bool.false_or]
      clear hH hk hO r1 r2 hpe
      generalize roomN size = rm at *
      generalize pgN size = n at *
      generalize big H.R = bg at *
      have HD : Hid (decide (n ≤ bg) = decide ((n : Int) ≤ bg)) := by show _ = _; rw [decide_eq_decide]; omega
      go_enter Tryz.func56, Tryz.ntmps56
      go_wp2_with (first | (go_at_call 90; refine met K ?_) | (go_at_call 91; refine met (KP _) ?_) | (go_at_call 92; refine KO.mono ?_; clear KO; rintro e w1 ⟨rfl, hE1⟩; have KL1 := KL w1 hE1; replace hE1 := hid hE1; clear KL) | (go_at_call 93; refine KL1.mono ?_; clear KL1; rintro e w2 ⟨rfl, hE2⟩; replace hE2 := hid hE2) | fail "no arm")
      go_ret
      exact ⟨by rw [HD.out]; rfl, hE1.out.trans hE2.out⟩
  · have hpe : pgE size = 2 := by unfold pgE; rw [if_neg hO]
    rw [hpe] at K
    simp only [hO, decide_false, Bool.false_and]
    generalize rmV size = rv at *
    clear hH hO hpe
    go_enter Tryz.func56, Tryz.ntmps56
    go_wp2_with (first | (go_at_call 90; refine met K ?_) | fail "no arm")
    go_ret
    exact ⟨rfl, Ext.refl _ _⟩

end

end Go.Proofs.YtjbbomokgpoilaaGreatDoor

/-
  A new heap; no statement is proved here.
-/
namespace Go.Proofs.YtjbbomokgpoilaaGreatDoor
open Go.RowKit

theorem rnew_bad (k : Int) (w : World) (h : k < 0 ∨ 1024 < k) : Calls Tryz.prog 113 #[.int .i64 k] w fun e w' => e = .returned (.tuple #[.pointer none, .int .i64 2]) ∧ w' = w := by
  rcases h with h | h
  · go_enter Tryz.func113, Tryz.ntmps113
    go_wp2
    go_ret2
    exact ⟨rfl, rfl⟩
  · have h2 : ¬ k < 0 := by omega
    go_enter Tryz.func113, Tryz.ntmps113
    go_wp2
    go_ret2
    exact ⟨rfl, rfl⟩

def RNewPost (w : World) (k : Nat) (e : Ending) (w' : World) : Prop :=
  ∃ p v, e = .returned (.tuple #[.pointer (some ⟨p, 0, none⟩), .int .i64 0]) ∧ w'.heap[p]? = some (.cells #[v] 78 (0, 0)) ∧ Lst w' v (newR k) ∧ w.heap.size ≤ p ∧ (∀ g, v.ownBlock = some g → w.heap.size ≤ g) ∧ Ext [] w w'
theorem lst_row {w : World} {g : Nat} (L : List Rn) (n : Nat) (hn : L.length = n) (hm : n ≤ maxLen) (h : w.heap[g]? = some (.cells (rcells L).toArray 98 (0, 0))) : Lst w (.slice (some ⟨g, 0, none⟩) n n) L := by
  subst hn
  exact ⟨rcells_len L, .inr ⟨g, _, _, rfl, Nat.zero_le _, h, Nat.le_refl _, hm, by simp [rcells_len], by simp [← rcells_len]⟩⟩
theorem rnew_ok (k : Nat) (w : World) (h : k ≤ 1024) : Calls Tryz.prog 113 #[.int .i64 k] w (RNewPost w k) := by
  by_cases h0 : k = 0
  · subst h0
    go_enter Tryz.func113, Tryz.ntmps113
    go_wp2
    go_ret2
    exact ⟨_, _, rfl, heap_alloc_new _ _, lst_nil _, Nat.le_refl _, by simp [Value.ownBlock], Ext.alloc _ _ _⟩
  · have hk : 0 < k := by omega
    go_enter Tryz.func113, Tryz.ntmps113
    go_wp2
    go_ret2
    refine ⟨_, .slice (some ⟨w.heap.size + 1, 0, none⟩) 1 1, rfl, ?_, ?_, Nat.le_refl _, by simp [Value.ownBlock], ?_⟩
    · exact heap_alloc2_old _ _ _
    · have e : newR k = [⟨0, k, false⟩] := by simp [newR, h0]
      rw [e]
      exact lst_row [⟨0, k, false⟩] 1 rfl (by decide) (heap_alloc2_new _ _ _)
    · exact (Ext.alloc _ _ _).trans (Ext.alloc _ _ _)

theorem info128 : (Tryz.prog.info? 128).map (fun i => (i.zero, i.size, i.bytes)) = some (some (.pointer none), 1, 8) := by kernel_rfl

/-- A new heap. -/
def newH (k : Nat) : Hs := ⟨k, newR k, [], List.replicate ((k + 1) * 256) 0⟩
theorem newH_ok {k : Nat} (h : k ≤ 1024) : Hv (newH k) := by
  refine ⟨inv_new k h, ?_, by simp [newH], by simp [newH], fun x hx => ?_⟩
  · unfold newH newR
    simp only [List.map_nil]
    split <;> simp [used]
  · simp only [newH, List.mem_replicate] at hx
    omega
def HNewPost (w : World) (k : Nat) (e : Ending) (w' : World) : Prop :=
  ∃ h cs F, e = .returned (.tuple #[.pointer (some ⟨h, 0, none⟩), .int .i64 0]) ∧ Hw w' h 0 81 cs F (newH k) ∧ w.heap.size ≤ h ∧ (∀ b, F b → w.heap.size ≤ b) ∧ cs.size = 3 ∧ Ext [] w w'

theorem hnew_bad (k : Int) (w : World) (h : k < 0 ∨ 1024 < k) : Calls Tryz.prog 85 #[.int .i64 k] w fun e w' => e = .returned (.tuple #[.pointer none, .int .i64 2]) ∧ w' = w := by
  go_enter Tryz.func85, Tryz.ntmps85
  go_wp2_with (first | (go_at_call 113; refine met (rnew_bad _ _ h) ?_) | fail "no arm")
  go_ret2
  exact ⟨rfl, rfl⟩

set_option maxRecDepth 100000 in
set_option maxHeartbeats 2000000 in
theorem hnew_ok (k : Nat) (w : World) (h : k ≤ 1024) : Calls Tryz.prog 85 #[.int .i64 k] w (HNewPost w k) := by
  have K1 := rnew_ok k w h
  have K2 := fun u => pageAddr_any (k : Int) u (by omega)
  have K3 := fun u => anew_ok ((k + 1) * 256) u (by omega)
  have e1 : ((((k + 1) * 256 : Nat)) : Int) = ((k : Int) + 1) * 256 := by omega
  rw [e1] at K3
  obtain ⟨i, hi, hz0, hz1, hz2⟩ := info_parts info128
  have HMK : Hid (∀ u, (Instr.makeSlice 79 (.int .i64 (k : Int)) (.int .i64 (k : Int))).run Tryz.prog u = .ok (.slice (some ⟨u.heap.size, 0, none⟩) k k) (u.alloc (.cells (ocells (List.replicate k none)).toArray 128))) := by
    intro u
    have hr := run_make (P := Tryz.prog) u 79 128 i _ Tryz.underlying79 hi hz0 .i64 .i64 k k (by omega) (Int.le_refl _) (by rw [hz2]; omega) (by omega)
    rw [hz1] at hr
    simp only [Int.toNat_natCast] at hr
    have hm : madeCells (Value.pointer none).cells (k * 1) = (ocells (List.replicate k none)).toArray := by
      apply Array.toList_inj.1
      rw [show (Value.pointer none).cells = #[.pointer none] from rfl, toList_madeCells_one]
      simp [ocells]
    rw [hm] at hr
    exact hr
  clear hz0 hz1 hz2 hi i e1
  go_enter Tryz.func85, Tryz.ntmps85
  go_upto_region 7 with (first | (go_at_call 113; refine K1.mono ?_; clear K1; rintro e w1 ⟨p, v, rfl, hb, hl, hp, hv, hE1⟩) | (go_at_call 106; refine met (K2 _) ?_) | (go_at_call 114; refine (K3 _).mono ?_; clear K3; rintro e w2 ⟨rfl, hA, hE2⟩) | fail "no arm")
  have hmk := HMK.out w2.drew
  have hb2 := hE2.keep hb (by simp)
  have hl2 := hl.keep0 hE2
  have hac := hA.cell
  rw [List.length_replicate] at hac
  have hpc : w2.cell? ⟨p, 0, none⟩ = some v := by rw [cell_of_row _ _ _ _ _ _ hb2]; rfl
  obtain ⟨q, hq⟩ : ∃ q, q = w1.heap.size + 1 := ⟨_, rfl⟩
  rw [← hq] at hA hac ⊢
  have HQ := hid hq
  obtain ⟨nb, hnb⟩ : ∃ nb, nb = (k + 1) * 256 := ⟨_, rfl⟩
  rw [← hnb] at hA hac
  have HNB := hid hnb
  have HA := hid hA
  have HL2 := hid hl2
  have HE := hid (hE1.trans hE2)
  have HP := hid hp
  have HV := hid hv
  have HS1 := hid hE1.size
  have hE3 := Ext.alloc [] w2 (.cells (ocells (List.replicate k none)).toArray 128)
  have c0 := (Ext.drew [] w2).cell hac (by simp)
  have c1 := (Ext.drew [] w2).cell hpc (by simp)
  have c2 := hE3.cell hac (by simp)
  have c3 := hE3.cell hpc (by simp)
  have hfin : Hid (∀ W, W = ((w2.alloc (.cells (ocells (List.replicate k none)).toArray 128)).alloc (.cells #[.slice (some ⟨w1.heap.size, 0, none⟩) nb nb, v, .slice (some ⟨w2.heap.size, 0, none⟩) k k] 81)).drew → Hw W (w2.heap.size + 1) 0 81 #[.slice (some ⟨w1.heap.size, 0, none⟩) nb nb, v, .slice (some ⟨w2.heap.size, 0, none⟩) k k] (fun b => w.heap.size ≤ b ∧ b ≠ w2.heap.size + 1) (newH k) ∧ Ext [] w W) := by
    rintro W rfl
    have e4 := hE3.trans (Ext.alloc [] _ (.cells #[.slice (some ⟨w1.heap.size, 0, none⟩) nb nb, v, .slice (some ⟨w2.heap.size, 0, none⟩) k k] 81))
    have e5 := e4.trans (Ext.drew [] _)
    have hz1 := hE1.size
    have hz2 := hE2.size
    refine ⟨⟨w1.heap.size, w2.heap.size, v, fun _ => (0, 0), List.replicate k none, ⟨?_, by simp, by decide⟩, by decide, ?_, ?_, ?_, hl2.keep0 e5, ?_, by simp [newH], ?_, by simp [newH], by simp [newH], ?_, ?_, ?_, by simp [newH], by simp, newH_ok h⟩, (hE1.trans hE2).trans e5⟩
    · exact (Ext.drew [] _).keep (heap_alloc2_new w2 _ _) (by simp)
    · simp only [newH, List.length_replicate, ← hnb]; rfl
    · simp only [List.length_replicate]; rfl
    · show Row _ _ (List.replicate ((k + 1) * 256) 0)
      rw [← hnb]
      exact hA.row.keep e5 (by simp)
    · exact (Ext.drew [] _).keep (heap_alloc2_old w2 _ _) (by simp)
    · intro i hi
      simp only [newH, spanAt, List.find?_nil, Option.map_none]
      rw [List.getD_eq_getElem?_getD, List.getElem?_replicate]
      split <;> rfl
    · have := lt_of_heap hA.row; exact ⟨hz1, by omega⟩
    · exact ⟨by omega, by omega⟩
    · intro g hg
      have h1 := hv g hg
      have h2 := hl2.lt g hg
      exact ⟨h1, by omega⟩
  clear hA hl hl2 hb hb2 hE1 hE2 hE3 hp hv hq hnb HMK hac hpc
  generalize (ocells (List.replicate k none)).toArray = X at *
  go_region_law (fail)
  all_goals
    go_wp2_with fail
    go_ret2
    obtain ⟨f1, f2⟩ := hfin.out _ rfl
    have z2 := HE.out.size
    exact ⟨w2.heap.size + 1, _, _, rfl, f1, by omega, fun b hb => hb.1, rfl, f2⟩

end Go.Proofs.YtjbbomokgpoilaaGreatDoor

/-
  object: an object told; no statement is proved here.
-/
namespace Go.Proofs.YtjbbomokgpoilaaGreatDoor
open Go.RowKit

theorem info34 : (Tryz.prog.info? 34).map (fun i => (i.zero, i.size, i.bytes)) = some (some (.agg #[.int .i64 0, .int .i64 0, .int .i64 0, .slice none 0 0]), 4, 48) := by kernel_rfl

/-- An object's value. -/
def obV (a s t : Int) : Value := .agg #[.int .i64 a, .int .i64 s, .int .i64 t, .slice none 0 0]
theorem load34 {w : World} {g : Nat} {a s t : Int} {v : Value} (h : w.heap[g]? = some (.cells #[.int .i64 a, .int .i64 s, .int .i64 t, v] 34 (0, 0))) : (loadVar 34 ⟨g, 0, none⟩).run Tryz.prog w = .ok (.agg #[.int .i64 a, .int .i64 s, .int .i64 t, v]) w := by
  have c0 : w.cell? ⟨g, 0, none⟩ = some (.int .i64 a) := by rw [cell_of_row _ _ _ _ _ _ h]; rfl
  have c1 : w.cell? ⟨g, 1, none⟩ = some (.int .i64 s) := by rw [cell_of_row _ _ _ _ _ _ h]; rfl
  have c2 : w.cell? ⟨g, 2, none⟩ = some (.int .i64 t) := by rw [cell_of_row _ _ _ _ _ _ h]; rfl
  have c3 : w.cell? ⟨g, 3, none⟩ = some v := by rw [cell_of_row _ _ _ _ _ _ h]; rfl
  simp [go_sem, c0, c1, c2, c3]
theorem results_cell_tmp2 {P : Program} {fn : Func} {p q : Tmp} {ty : TypeId} (h : fn.results = #[.cell p ty, .tmp q]) (tmps : Array Value) (w : World) (a : Addr) (v : Value)
    (hp : tmps.getD p undef = .pointer (some a)) (h1 : (loadVar ty a).run P w = .ok v w) : (results fn tmps).run P w = .ok (.tuple #[v, tmps.getD q undef]) w := by
  have hp' : tmps[p]?.getD undef = .pointer (some a) := by simpa using hp
  simp [results, h, hp', asAddr, h1]

set_option maxRecDepth 100000 in
set_option maxHeartbeats 4000000 in
theorem object_any (s g : Nat) (start pages room used : Int) (i : Nat) (S : List Slot) (w : World) (hS : Sp w s g start pages room used S) (h1 : 0 ≤ start ∧ start ≤ 1024) (h2 : 0 ≤ room ∧ room ≤ 65536) (h3 : i < S.length) (h4 : S.length ≤ 65536) :
    Calls Tryz.prog 75 #[.pointer (some ⟨s, 0, none⟩), .int .i64 i] w (SayPost w (obV ((start + 1) * 256 + i * room) (S.getD i (0, 0)).1 (S.getD i (0, 0)).2)) := by
  obtain ⟨wa, hwa⟩ : ∃ wa, wa = w.alloc (.cells #[.int .i64 0, .int .i64 0, .int .i64 0, .slice none 0 0] 34) := ⟨_, rfl⟩
  have hE0 : Ext [] w wa := by rw [hwa]; exact Ext.alloc _ _ _
  have hS0 := hS.keep hE0 (by simp) (by simp)
  have hb0 : wa.heap[w.heap.size]? = some (.cells #[.int .i64 0, .int .i64 0, .int .i64 0, .slice none 0 0] 34 (0, 0)) := by rw [hwa]; exact heap_alloc_new _ _
  have KA := fun n => addr_dr s g start pages room used i S (wa.drewN n) (hS0.keep (Ext.drewN [] wa n) (by simp) (by simp)) h1 h2 (by omega)
  have c4 := hS0.c4
  obtain ⟨a0, a1⟩ := hS0.at_ h3
  have hil : (i : Int) < (S.length : Nat) := by omega
  obtain ⟨ad, had⟩ : ∃ ad : Int, ad = (start + 1) * 256 + i * room := ⟨_, rfl⟩
  rw [← had] at KA ⊢
  have fz0 := frozen_of_row wa w.heap.size 0 _ _ hb0
  have fz1 := frozen_of_row wa w.heap.size 1 _ _ hb0
  have fz2 := frozen_of_row wa w.heap.size 2 _ _ hb0
  have fz3 := frozen_of_row wa w.heap.size 3 _ _ hb0
  have d0 : wa.cell? ⟨w.heap.size, 0, none⟩ = some (.int .i64 0) := by rw [cell_of_row _ _ _ _ _ _ hb0]; rfl
  have d1 : wa.cell? ⟨w.heap.size, 1, none⟩ = some (.int .i64 0) := by rw [cell_of_row _ _ _ _ _ _ hb0]; rfl
  have d2 : wa.cell? ⟨w.heap.size, 2, none⟩ = some (.int .i64 0) := by rw [cell_of_row _ _ _ _ _ _ hb0]; rfl
  have d3 : wa.cell? ⟨w.heap.size, 3, none⟩ = some (.slice none 0 0) := by rw [cell_of_row _ _ _ _ _ _ hb0]; rfl
  have HFin : Hid (∀ m, (loadVar 34 ⟨w.heap.size, 0, none⟩).run Tryz.prog (((((wa.drewN (1 + m)).setCell ⟨w.heap.size, 0, none⟩ (.int .i64 ad)).setCell ⟨w.heap.size, 1, none⟩ (.int .i64 (S.getD i (0, 0)).1)).setCell ⟨w.heap.size, 2, none⟩ (.int .i64 (S.getD i (0, 0)).2)).setCell ⟨w.heap.size, 3, none⟩ (.slice none 0 0)) = .ok (obV ad (S.getD i (0, 0)).1 (S.getD i (0, 0)).2) (((((wa.drewN (1 + m)).setCell ⟨w.heap.size, 0, none⟩ (.int .i64 ad)).setCell ⟨w.heap.size, 1, none⟩ (.int .i64 (S.getD i (0, 0)).1)).setCell ⟨w.heap.size, 2, none⟩ (.int .i64 (S.getD i (0, 0)).2)).setCell ⟨w.heap.size, 3, none⟩ (.slice none 0 0)) ∧
      Ext [] w (((((wa.drewN (1 + m)).setCell ⟨w.heap.size, 0, none⟩ (.int .i64 ad)).setCell ⟨w.heap.size, 1, none⟩ (.int .i64 (S.getD i (0, 0)).1)).setCell ⟨w.heap.size, 2, none⟩ (.int .i64 (S.getD i (0, 0)).2)).setCell ⟨w.heap.size, 3, none⟩ (.slice none 0 0))) := by
    intro m
    have hb1 := (Ext.drewN [] wa (1 + m)).keep hb0 (by simp)
    refine ⟨?_, ?_⟩
    · have := heap_setCell_same _ _ 3 _ _ (.slice none 0 0) (heap_setCell_same _ _ 2 _ _ (.int .i64 (S.getD i (0, 0)).2) (heap_setCell_same _ _ 1 _ _ (.int .i64 (S.getD i (0, 0)).1) (heap_setCell_same _ _ 0 _ _ (.int .i64 ad) hb1)))
      exact load34 this
    · refine Ext.on (hE0.trans (Ext.drewN [] wa (1 + m))) (S := [w.heap.size]) ?_ (by simp)
      exact (((Ext.setCell _ _ _ _ (by simp)).trans (Ext.setCell _ _ _ _ (by simp))).trans (Ext.setCell _ _ _ _ (by simp))).trans (Ext.setCell _ _ _ _ (by simp))
  clear hS hS0 had h1 h2 h3 h4 hb0 hE0
  generalize (S.getD i (0, 0)).1 = x0 at *
  generalize (S.getD i (0, 0)).2 = x1 at *
  generalize S.length = len at *
  go_enter Tryz.func75, Tryz.ntmps75
  go_upto_region 1 with fail
  rw [← hwa]
  clear hwa
  have KA1 := KA 1
  go_region_law (go_simp; go_wp2_with (first | (go_at_call 74; refine KA1.mono ?_; clear KA1; rintro e w2 ⟨rfl, m, rfl⟩) | fail "no arm"))
  all_goals
    go_wp2_with fail
    refine bodyPost_ret (results_cell1 rfl _ _ ⟨w.heap.size, 0, none⟩ _ rfl (HFin.out _).1) rfl ⟨rfl, (HFin.out _).2⟩

end Go.Proofs.YtjbbomokgpoilaaGreatDoor

/-
  The document's own Load; Info; no statement is proved here.
-/
namespace Go.Proofs.YtjbbomokgpoilaaGreatDoor
open Go.RowKit

/-! ### Load -/

theorem add_wrap (s b : Int) (k : Nat) (hk : k < 8) (h0 : 0 ≤ s) (h1 : s < 2 ^ (8 * k)) (h2 : 0 ≤ b) (h3 : b < 256) :
    IntKind.u64.wrap (s + IntKind.u64.wrap (b * 2 ^ (8 * k))) = s + b * 2 ^ (8 * k) := by
  have hp : (0 : Int) < 2 ^ (8 * k) := Int.pow_pos (by omega)
  have hle : (2 : Int) ^ (8 * k) ≤ 72057594037927936 := by
    have : k = 0 ∨ k = 1 ∨ k = 2 ∨ k = 3 ∨ k = 4 ∨ k = 5 ∨ k = 6 ∨ k = 7 := by omega
    rcases this with h | h | h | h | h | h | h | h <;> subst h <;> decide
  have m0 : 0 ≤ b * 2 ^ (8 * k) := Int.mul_nonneg h2 (by omega)
  have m1 : b * 2 ^ (8 * k) ≤ 255 * 2 ^ (8 * k) := Int.mul_le_mul_of_nonneg_right (by omega) (by omega)
  have hw : IntKind.u64.wrap (b * 2 ^ (8 * k)) = b * 2 ^ (8 * k) := by rw [IntKind.wrap_u64]; omega
  rw [hw, IntKind.wrap_u64]; omega

theorem dr_ext {w w' : World} (h : ∃ m, w' = w.drewN m) : Ext [] w w' := by
  obtain ⟨m, rfl⟩ := h
  exact Ext.drewN _ _ _

/-- Info's answer. -/
def infV (H : Hs) (a : Int) : Option (Nat × Nat) → Value
  | some (k, j) => if (adrAt H k j : Int) = a then .tuple #[obV a (slotAt H k j).1 (slotAt H k j).2, .int .i64 0] else .tuple #[obV 0 0 0, .int .i64 4]
  | none => .tuple #[obV 0 0 0, .int .i64 4]

theorem set34 {w : World} {g : Nat} {c : Array Value} (h : w.heap[g]? = some (.cells c 34 (0, 0))) (hc : c.size = 4) (a s t : Int) :
    ((((w.setCell ⟨g, 0, none⟩ (.int .i64 a)).setCell ⟨g, 1, none⟩ (.int .i64 s)).setCell ⟨g, 2, none⟩ (.int .i64 t)).setCell ⟨g, 3, none⟩ (.slice none 0 0)).heap[g]? = some (.cells #[.int .i64 a, .int .i64 s, .int .i64 t, .slice none 0 0] 34 (0, 0)) := by
  rw [heap_setCell_same _ g 3 _ _ _ (heap_setCell_same _ g 2 _ _ _ (heap_setCell_same _ g 1 _ _ _ (heap_setCell_same w g 0 _ _ _ h)))]
  congr 2
  apply Array.ext
  · simp [hc]
  · intro i h1 h2
    simp at h2
    have : i = 0 ∨ i = 1 ∨ i = 2 ∨ i = 3 := by omega
    rcases this with rfl | rfl | rfl | rfl <;> simp [hc]
theorem ext34 {w : World} {g : Nat} (a s t : Int) : Ext [g] w ((((w.setCell ⟨g, 0, none⟩ (.int .i64 a)).setCell ⟨g, 1, none⟩ (.int .i64 s)).setCell ⟨g, 2, none⟩ (.int .i64 t)).setCell ⟨g, 3, none⟩ (.slice none 0 0)) :=
  (((Ext.setCell _ _ _ _ (by simp)).trans (Ext.setCell _ _ _ _ (by simp))).trans (Ext.setCell _ _ _ _ (by simp))).trans (Ext.setCell _ _ _ _ (by simp))

section
variable {p ox : Nat} {T : TypeId} {cs : Array Value} {F : Nat → Prop} {H : Hs} {ag og : Nat} {V : Value} {sb : Nat → Nat × Nat} {O : List (Option Nat)}

set_option maxRecDepth 100000 in
set_option maxHeartbeats 4000000 in
theorem info_any (a : Int) (w : World) (hH : Hm w p ox T cs F H ag og V sb O) : Calls Tryz.prog 42 #[.pointer (some ⟨p, ox, none⟩), .int .i64 a] w (SayPost w (infV H a (fnd H a))) := by
  obtain ⟨wa, hwa⟩ : ∃ wa, wa = w.alloc (.cells #[.int .i64 0, .int .i64 0, .int .i64 0, .slice none 0 0] 34) := ⟨_, rfl⟩
  have hE0 : Ext [] w wa := by rw [hwa]; exact Ext.alloc _ _ _
  have hb0 : wa.heap[w.heap.size]? = some (.cells #[.int .i64 0, .int .i64 0, .int .i64 0, .slice none 0 0] 34 (0, 0)) := by rw [hwa]; exact heap_alloc_new _ _
  have hHa := hH.keep0 hE0
  have K := find_any a wa hHa
  -- what is stored into the answer
  have HS : Hid (∀ u, Ext [] wa u → u.frozen? ⟨w.heap.size, 0, none⟩ = false ∧ u.frozen? ⟨w.heap.size, 1, none⟩ = false ∧ u.frozen? ⟨w.heap.size, 2, none⟩ = false ∧ u.frozen? ⟨w.heap.size, 3, none⟩ = false ∧
      u.cell? ⟨w.heap.size, 0, none⟩ = some (.int .i64 0) ∧ u.cell? ⟨w.heap.size, 1, none⟩ = some (.int .i64 0) ∧ u.cell? ⟨w.heap.size, 2, none⟩ = some (.int .i64 0) ∧ u.cell? ⟨w.heap.size, 3, none⟩ = some (.slice none 0 0)) := fun u hu => by
    have hb := hu.keep hb0 (by simp)
    refine ⟨frozen_of_row _ _ _ _ _ hb, frozen_of_row _ _ _ _ _ hb, frozen_of_row _ _ _ _ _ hb, frozen_of_row _ _ _ _ _ hb, ?_, ?_, ?_, ?_⟩ <;> (rw [cell_of_row _ _ _ _ _ _ hb]; rfl)
  have HF : Hid (∀ u x s t er, Ext [] wa u → ∀ tmps : Array Value, tmps.getD 4 undef = .pointer (some ⟨w.heap.size, 0, none⟩) → tmps.getD 5 undef = .int .i64 er →
      (results Tryz.f42 tmps).run Tryz.prog ((((u.setCell ⟨w.heap.size, 0, none⟩ (.int .i64 x)).setCell ⟨w.heap.size, 1, none⟩ (.int .i64 s)).setCell ⟨w.heap.size, 2, none⟩ (.int .i64 t)).setCell ⟨w.heap.size, 3, none⟩ (.slice none 0 0)) = .ok (.tuple #[obV x s t, .int .i64 er]) ((((u.setCell ⟨w.heap.size, 0, none⟩ (.int .i64 x)).setCell ⟨w.heap.size, 1, none⟩ (.int .i64 s)).setCell ⟨w.heap.size, 2, none⟩ (.int .i64 t)).setCell ⟨w.heap.size, 3, none⟩ (.slice none 0 0)) ∧
      Ext [] w ((((u.setCell ⟨w.heap.size, 0, none⟩ (.int .i64 x)).setCell ⟨w.heap.size, 1, none⟩ (.int .i64 s)).setCell ⟨w.heap.size, 2, none⟩ (.int .i64 t)).setCell ⟨w.heap.size, 3, none⟩ (.slice none 0 0))) := fun u x s t er hu tmps h4 h5 => by
    have := results_cell_tmp2 (P := Tryz.prog) (fn := Tryz.f42) (p := 4) (q := 5) (ty := 34) rfl tmps _ ⟨w.heap.size, 0, none⟩ _ h4 (load34 (set34 (hu.keep hb0 (by simp)) rfl x s t))
    rw [h5] at this
    exact ⟨this, (hE0.trans hu).on (ext34 x s t) (by simp)⟩
  cases hf : fnd H a with
  | none =>
    rw [hf] at K
    simp only [fdV] at K
    clear hH hHa hf hb0 hE0
    go_enter Tryz.func42, Tryz.ntmps42
    go_upto_region 1 with fail
    rw [← hwa]
    clear hwa
    go_wp2_with (first | (go_at_call 73; refine K.mono ?_; clear K; rintro e w1 ⟨rfl, hm⟩; have hE1 := hid (dr_ext hm); clear hm; have y := HS.out w1 hE1.out) | fail "no arm")
    refine bodyPost_ret (HF.out w1 0 0 0 4 hE1.out _ ?_ ?_).1 rfl ⟨rfl, (HF.out w1 0 0 0 4 hE1.out #[undef, undef, undef, undef, .pointer (some ⟨w.heap.size, 0, none⟩), .int .i64 4] rfl rfl).2⟩
    · rfl
    · rfl
  | some q =>
    obtain ⟨k, j⟩ := q
    rw [hf] at K
    simp only [fdV] at K
    obtain ⟨hs, h1, h2⟩ := hHa.ok.hit hf
    have KA := hHa.addr_dr hs
    by_cases hc : (adrAt H k j : Int) = a
    · have hV : infV H a (some (k, j)) = .tuple #[obV a (slotAt H k j).1 (slotAt H k j).2, .int .i64 0] := if_pos hc
      rw [hV]
      have KB : Hid (∀ u, Ext [] wa u → Calls Tryz.prog 75 #[.pointer (some ⟨(sb (spAt H k).st).1, 0, none⟩), .int .i64 j] u (SayPost u (.agg #[.int .i64 a, .int .i64 (slotAt H k j).1, .int .i64 (slotAt H k j).2, .slice none 0 0]))) := fun u hu => by
        have := object_any _ _ _ _ _ _ j _ u ((hHa.spans _ hs.mem).keep hu (by simp) (by simp)) (by have := hs.st; have := hs.P1; omega) (by have := hs.ok.rm2; omega) hs.jl (hs.ok.len2 (by have := hs.st; have := hs.P1; omega))
        rw [← hs.ad, hc] at this
        exact this
      clear hV hH hHa hf hb0 hE0 hs h1 h2
      subst hc
      generalize (sb (spAt H k).st).1 = s at *
      generalize adrAt H k j = ad at *
      generalize (slotAt H k j).1 = x0 at *
      generalize (slotAt H k j).2 = x1 at *
      go_enter Tryz.func42, Tryz.ntmps42
      go_upto_region 1 with fail
      rw [← hwa]
      clear hwa
      go_wp2_with (first | (go_at_call 73; refine K.mono ?_; clear K; rintro e w1 ⟨rfl, hm⟩; have hE1 := hid (dr_ext hm); clear hm; have KA1 := KA w1 hE1.out 0) | (go_at_call 74; refine KA1.mono ?_; clear KA1; rintro e w2 ⟨rfl, hm⟩; have hE2 := hid (hE1.out.trans ((Ext.drewN [] w1 0).trans (dr_ext hm))); clear hm; have KB2 := KB.out w2 hE2.out) | (go_at_call 75; refine KB2.mono ?_; clear KB2; rintro e w3 ⟨rfl, hm⟩; have hE3 := hid (hE2.out.trans hm); clear hm; have y := HS.out w3 hE3.out) | fail "no arm")
      refine bodyPost_ret (HF.out w3 ad x0 x1 0 hE3.out _ ?_ ?_).1 rfl ⟨rfl, (HF.out w3 ad x0 x1 0 hE3.out #[undef, undef, undef, undef, .pointer (some ⟨w.heap.size, 0, none⟩), .int .i64 0] rfl rfl).2⟩
      · rfl
      · rfl
    · have hV : infV H a (some (k, j)) = .tuple #[obV 0 0 0, .int .i64 4] := if_neg hc
      rw [hV]
      have hb : ((adrAt H k j : Int) == a) = false := by simpa using hc
      clear hV hH hHa hf hb0 hE0 hs h1 h2 hc
      generalize (sb (spAt H k).st).1 = s at *
      generalize adrAt H k j = ad at *
      go_enter Tryz.func42, Tryz.ntmps42
      go_upto_region 1 with fail
      rw [← hwa]
      clear hwa
      go_wp2_with (first | (go_at_call 73; refine K.mono ?_; clear K; rintro e w1 ⟨rfl, hm⟩; have hE1 := hid (dr_ext hm); clear hm; have KA1 := KA w1 hE1.out 0) | (go_at_call 74; refine KA1.mono ?_; clear KA1; rintro e w2 ⟨rfl, hm⟩; have hE2 := hid (hE1.out.trans ((Ext.drewN [] w1 0).trans (dr_ext hm))); clear hm; have y := HS.out w2 hE2.out) | fail "no arm")
      refine bodyPost_ret (HF.out w2 0 0 0 4 hE2.out _ ?_ ?_).1 rfl ⟨rfl, (HF.out w2 0 0 0 4 hE2.out #[undef, undef, undef, undef, .pointer (some ⟨w.heap.size, 0, none⟩), .int .i64 4] rfl rfl).2⟩
      · rfl
      · rfl

end

end Go.Proofs.YtjbbomokgpoilaaGreatDoor
