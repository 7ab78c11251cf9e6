/-
  Free where the last object of a span goes; Fits; no statement is proved here.
-/
import Derived.Test.YtlajjcboahflbaaDoorFreeH
namespace Go.Proofs.YtlajjcboahflbaaDoor
open Go.RowKit

section
variable {p ox : Nat} {T : TypeId} {cs : Array Value} {F : Nat → Prop} {H : Hs} {ag og : Nat} {V : Value} {sb : Nat → Nat × Nat} {O : List (Option Nat)}

set_option maxRecDepth 100000 in
set_option maxHeartbeats 8000000 in
theorem hfree_span (k j : Nat) (w : World) (hH : Hm w p ox T cs F H ag og V sb O) (hf : fnd H (adrAt H k j) = some (k, j)) (hu : ¬ 0 < us ((spAt H k).S.set j (0, 0))) :
    Calls Tryd.prog 19 #[.pointer (some ⟨p, ox, none⟩), .int .i64 (adrAt H k j)] w (HPost w p ox T cs F ⟨H.P, relL H.R (runK H.R (spAt H k).st), H.sp.eraseIdx k, H.B⟩ (.int .i64 0)) := by
  have K := find_any (adrAt H k j) w hH
  rw [hf] at K
  simp only [fdV] at K
  obtain ⟨hs, h1, h2⟩ := hH.ok.hit hf
  have KA := hH.addr_dr hs
  have hxs := hH.spans _ hs.mem
  have hP := hs.P1
  have hst := hs.st
  have hl2 := hs.ok.len2 (by omega)
  have hul := us_le (spAt H k).S
  have hud := us_set hs.jl (0, 0)
  rw [if_pos (show 0 < ((spAt H k).S.getD j (0, 0)).1 by unfold slotAt at h2; omega), if_neg (show ¬ 0 < ((0 : Int), (0 : Int)).1 by simp)] at hud
  have KD := fun u (hu : Ext [] w u) => sdrop_any _ _ _ _ _ _ _ j u (hxs.keep hu (by simp) (by simp)) hs.jl hl2 (by omega)
  have hus1 : ((us (spAt H k).S : Int) - 1) = 0 := by omega
  rw [hus1] at KD
  have hos := ty_ne hH.owners hxs.box (by decide)
  have hog := ty_ne hH.owners hxs.row (by decide)
  have hps := ty_ne hH.box.at_ hxs.box hH.ty.2.2.1
  have hpg := ty_ne hH.box.at_ hxs.row hH.ty.2.2.2
  have hpo := ty_ne hH.box.at_ hH.owners hH.ty.2.1
  obtain ⟨rk1, rk2, rk3, rk4, rk5⟩ := hH.ok.runK hs.mem
  have hRl := hH.ok.inv.len
  -- the pages' owners
  have KO : Hid (∀ u w2, Ext [] w u → Sp w2 (sb (spAt H k).st).1 (sb (spAt H k).st).2 (spAt H k).st (spAt H k).n (spAt H k).rm 0 ((spAt H k).S.set j (0, 0)) → Ext [(sb (spAt H k).st).1, (sb (spAt H k).st).2] u w2 →
      Calls Tryd.prog 46 #[.pointer (some ⟨p, ox, none⟩), .pointer (some ⟨(sb (spAt H k).st).1, 0, none⟩), .pointer none] w2 (OwPost ox w2 p og (ownL O (spAt H k).st none (spAt H k).n))) := fun u w2 hue hS hE => by
    have hOw : Ow ox w2 p og O := ((hH.keep0 hue).ow).keep hE (by simp [hps, hpg]) (by simp [hos, hog])
    exact own_any p og _ _ O (spAt H k).st (spAt H k).n _ _ _ none w2 hOw hS (Ne.symm hos) (by rw [hH.olen]; exact hst) (by rw [hH.olen]; exact hP)
  -- the runs
  have hRk : ∀ u w2 w3, Ext [] w u → Ext [(sb (spAt H k).st).1, (sb (spAt H k).st).2] u w2 → Ext [og] w2 w3 → ∀ w4, Ext [] w3 w4 → Rs T ox cs w4 p V H.R := fun u w2 w3 hue hE hE3 w4 hE4 => by
    have a1 : Rs T ox cs w2 p V H.R := ((hH.keep0 hue).rs).keep hE (by simp [hps, hpg]) (fun b hb hv => by
      simp only [List.mem_cons, List.not_mem_nil, or_false] at hb
      rcases hb with rfl | rfl
      · exact own_ne hH.runs hxs.box (by decide) hv
      · exact own_ne hH.runs hxs.row (by decide) hv)
    exact (a1.keep hE3 (by simpa using hpo) (fun b hb hv => by
      simp only [List.mem_singleton] at hb
      subst hb
      exact own_ne hH.runs hH.owners (by decide) hv)).keep0 hE4
  have KF : Hid (∀ u w2 w3, Ext [] w u → Ext [(sb (spAt H k).st).1, (sb (spAt H k).st).2] u w2 → Ext [og] w2 w3 → ∀ w4, Ext [] w3 w4 → Calls Tryd.prog 47 #[.pointer (some ⟨p, ox + 1, none⟩), .int .i64 ((spAt H k).st : Int)] w4 (AlPost T ox cs w4 p V (relL H.R (runK H.R (spAt H k).st)) (.tuple #[.int .i64 (spAt H k).n, .int .i64 0]))) := fun u w2 w3 hue hE hE3 w4 hE4 => by
    have := free_hit p (runK H.R (spAt H k).st) ((spAt H k).st : Int) V H.R w4 (hRk u w2 w3 hue hE hE3 w4 hE4) rk1 rk2 (by omega) hH.ok.inv.few (fun i hi => (rk5 i hi).imp id (fun q h => q (by omega))) (by omega)
    rw [rk4] at this
    exact this
  have HF : Hid (∀ u w2 w3 w4 w5, Ext [] w u → Ext [(sb (spAt H k).st).1, (sb (spAt H k).st).2] u w2 → OwPost ox w2 p og (ownL O (spAt H k).st none (spAt H k).n) (.returned (.tuple #[])) w3 → Ext [] w3 w4 → AlPost T ox cs w4 p V (relL H.R (runK H.R (spAt H k).st)) (.tuple #[.int .i64 (spAt H k).n, .int .i64 0]) (.returned (.tuple #[.int .i64 (spAt H k).n, .int .i64 0])) w5 →
      HPost w p ox T cs F ⟨H.P, relL H.R (runK H.R (spAt H k).st), H.sp.eraseIdx k, H.B⟩ (.int .i64 0) (.returned (.int .i64 0)) w5) := by
    rintro u w2 w3 w4 w5 hue hE2 ⟨_, hOw, hE3⟩ hE4 ⟨V', _, hR, hON, hX⟩
    have z1 := hue.size
    have z2 := hE2.size
    have z3 := hE3.size
    have z4 := hE4.size
    have hall : Ext ((sb (spAt H k).st).1 :: (sb (spAt H k).st).2 :: p :: og :: V.ownBlock.toList) w w5 := by
      refine (((((hue.mono (by simp)).trans (hE2.mono ?_)).trans (hE3.mono ?_)).trans (hE4.mono (by simp))).trans (hX.mono ?_))
      · simp
      · simp
      · intro b hb
        simp only [List.mem_cons] at hb ⊢
        rcases hb with rfl | hb
        · exact .inr (.inr (.inl rfl))
        · exact .inr (.inr (.inr (.inr hb)))
    have hro : w5.heap[og]? = some (.cells (ocells (ownL O (spAt H k).st none (spAt H k).n)).toArray 85 (0, 0)) := by
      have q4 := hE4.keep hOw.row (by simp)
      refine hX.keep q4 ?_
      simp only [List.mem_cons, Option.mem_toList, not_or]
      refine ⟨Ne.symm hpo, fun hv => ?_⟩
      exact own_ne (hRk u w2 w3 hue hE2 hE3 w4 hE4).row q4 (by decide) hv
    refine ⟨rfl, _, ⟨_, _, _, _, _, hH.shed (spAt_get hs.kl) hall hR (hON.imp id (fun q g hg => by have := q g hg; omega)) hro⟩, Fx.of_ext hall ?_, fun _ h => h⟩
    have hfs := hH.fs _ hs.mem
    simp only [List.mem_cons, Option.mem_toList]
    rintro b (rfl | rfl | rfl | rfl | hb)
    · exact .inl (.inr hfs.1)
    · exact .inl (.inr hfs.2)
    · exact .inl (.inl rfl)
    · exact .inl (.inr hH.fo)
    · exact .inl (.inr (hH.fv b hb))
  have hos2 : (sb (spAt H k).st).1 ≠ og := Ne.symm hos
  have hsx : Hid ((sb (spAt H k).st).1 ∉ p :: V.ownBlock.toList) := by
    show _ ∉ _
    simp only [List.mem_cons, not_or]
    exact ⟨Ne.symm hps, hH.vown hxs.box (by decide)⟩
  clear hRk rk1 rk2 rk3 rk4 rk5 hRl hud hul hl2 hst hP hxs h1 h2 hs hf hpo hpg hps hog hus1 hu
  clear hos hH
  generalize relL H.R (runK H.R (spAt H k).st) = R' at *
  generalize H.sp.eraseIdx k = L' at *
  generalize ownL O (spAt H k).st none (spAt H k).n = O' at *
  generalize (spAt H k).S.set j (0, 0) = S' at *
  generalize (sb (spAt H k).st).1 = s at *
  generalize (sb (spAt H k).st).2 = g at *
  generalize (spAt H k).st = st at *
  generalize (spAt H k).n = n at *
  generalize adrAt H k j = ad at *
  go_enter Tryd.func19, Tryd.ntmps19
  go_upto_region 6 with (first | (go_at_call 32; refine K.mono ?_; clear K; rintro e w1 ⟨rfl, m, rfl⟩) | (go_at_call 33; refine (KA _ (Ext.drewN _ _ _) 0).mono ?_; clear KA; rintro e w2 ⟨rfl, m2, rfl⟩) | fail "no arm")
  obtain ⟨u, hu⟩ : ∃ u, u = w.drewN (m + m2) := ⟨_, rfl⟩
  rw [← hu]
  have hue : Hid (Ext [] w u) := by show Ext [] w u; rw [hu]; exact Ext.drewN _ _ _
  have KD1 := KD u hue.out
  clear KD hu
  go_upto_region 10 with (first | (go_at_call 45; refine KD1.mono ?_; clear KD1; rintro e w3 ⟨rfl, hS3, hE3⟩; have c3 := hS3.c3; have c0 := hS3.c0; have KO3 := KO.out u w3 hue.out hS3 hE3; replace hS3 := hid hS3; replace hE3 := hid hE3) | (go_at_call 46; refine KO3.mono ?_; clear KO3; rintro e w4 ⟨rfl, hOw, hE4⟩; replace hOw := hid hOw; replace hE4 := hid hE4; clear c3) | fail "no arm")
  have d0 := hE4.out.cell c0 (by simpa using hos2)
  clear c0
  have KF4 := hid (KF.out u w3 w4 hue.out hE3.out hE4.out)
  clear KF KO
  go_region_held3 (fun w' => w'.cell? ⟨s, 0, none⟩ = some (.int .i64 (st : Nat))) (first | exact h5.out.2.2.cell ((Ext.drew [] _).cell d0 (by simp)) hsx.out | go_keep)
    (first | (go_at_call 47; refine (KF4.out _ (Ext.drew [] _)).mono ?_; rintro e w5 ⟨V5, rfl, h5⟩; replace h5 := hid h5) | fail "no arm")
  go_wp2_with fail
  go_ret
  exact HF.out u w3 w4 _ w5 hue.out hE3.out ⟨rfl, hOw.out, hE4.out⟩ (Ext.drew [] _) ⟨V5, rfl, h5.out⟩

theorem hfree_any (a : Int) (w : World) (hH : Hw w p ox T cs F H) : Calls Tryd.prog 19 #[.pointer (some ⟨p, ox, none⟩), .int .i64 a] w (HPost w p ox T cs F (freeH H a).2 (.int .i64 (freeH H a).1)) := by
  obtain ⟨ag, og, V, sb, O, hH⟩ := hH
  unfold freeH
  split
  · rename_i hf
    exact (hfree_none a w hH hf).mono (by rintro _ _ ⟨rfl, m, rfl⟩; exact hpost_keep hH (Ext.drewN _ _ _) _)
  · rename_i k j hf
    split
    · rename_i he
      subst he
      simp only
      split
      · exact hfree_slot k j w hH hf ‹_›
      · exact hfree_span k j w hH hf ‹_›
    · exact (hfree_in a k j w hH hf ‹_›).mono (by rintro _ _ ⟨rfl, m, rfl⟩; exact hpost_keep hH (Ext.drewN _ _ _) _)

/-- Is there room? -/
def fitsH (H : Hs) (size : Int) : Bool := decide (Ok size) && ((H.sp.findIdx? (fitS (roomN size))).isSome || decide (pgN size ≤ big H.R))

theorem big_hole (R : List Rn) (n : Nat) (h1 : 1 ≤ n) : (hole R n).isSome = decide (n ≤ big R) := by
  have key : ∀ (L : List Rn) (m : Nat), (n ≤ L.foldl (fun m r => if r.u then m else max m r.n) m) ↔ (n ≤ m ∨ ∃ r ∈ L, r.u = false ∧ n ≤ r.n) := by
    intro L
    induction L with
    | nil => intro m; simp
    | cons r L ih =>
      intro m
      rw [List.foldl_cons, ih]
      cases hu : r.u
      · simp only [Bool.false_eq_true, if_false, List.mem_cons, exists_eq_or_imp, hu, true_and]
        rw [show n ≤ max m r.n ↔ n ≤ m ∨ n ≤ r.n by omega, or_assoc]
      · simp only [if_true, List.mem_cons, exists_eq_or_imp, hu]
        simp
  unfold big hole
  rw [List.findIdx?_isSome]
  have := key R 0
  rw [Bool.eq_iff_iff]
  simp only [List.any_eq_true, decide_eq_true_eq, Bool.and_eq_true, Bool.not_eq_true']
  rw [this]
  constructor
  · rintro ⟨r, hr, h⟩; exact .inr ⟨r, hr, h⟩
  · rintro (h | ⟨r, hr, h⟩)
    · omega
    · exact ⟨r, hr, h⟩

set_option maxRecDepth 100000 in
set_option maxHeartbeats 4000000 in
theorem hfits_any (size : Int) (w : World) (hG : Gl w) (hH : Hw w p ox T cs F H) : Calls Tryd.prog 14 #[.pointer (some ⟨p, ox, none⟩), .int .i64 size] w (SayPost w (.bool (fitsH H size))) := by
  obtain ⟨ag, og, V, sb, O, hH⟩ := hH
  have K := room_any size w hG
  unfold fitsH
  by_cases hO : Ok size
  · obtain ⟨r1, r2, p1, p2, _⟩ := room_ok hO
    have hpe : pgE size = 0 := by unfold pgE; rw [if_pos hO]
    have KP := fun u => pages_any size u
    rw [hpe, r2] at KP
    rw [hpe, r1] at K
    have KO := open_any (roomN size) w hH
    have hRl := hH.ok.inv.len
    have hP := hH.ok.P1
    have KL := fun u (hu : Ext [] w u) => largest_of (some ⟨p, ox + 1, none⟩) V H.R u (nowOf_any (hH.keep0 hu).rs) (hH.keep0 hu).runs (by omega)
    simp only [hO, decide_true, Bool.true_and]
    cases hk : H.sp.findIdx? (fitS (roomN size)) with
    | some k =>
      obtain ⟨x, hx, hf, _⟩ := findIdx_find hk
      rw [hf] at KO
      replace KO : Calls Tryd.prog 39 #[.pointer (some ⟨p, ox, none⟩), .int .i64 (roomN size)] w (fun e w' => e = .returned (.pointer (some ⟨(sb x.st).1, 0, none⟩)) ∧ Ext [] w w') := KO
      simp only [Option.isSome_some, Bool.true_or]
      clear hH hk hf hx hO r1 r2 hpe KL
      generalize (sb x.st).1 = s at *
      generalize roomN size = rm at *
      generalize pgN size = n at *
      go_enter Tryd.func14, Tryd.ntmps14
      go_wp2_with (first | (go_at_call 37; refine met K ?_) | (go_at_call 38; refine met (KP _) ?_) | (go_at_call 39; refine KO.mono ?_; clear KO; rintro e w1 ⟨rfl, hE1⟩; replace hE1 := hid hE1) | fail "no arm")
      go_ret
      exact ⟨rfl, hE1.out⟩
    | none =>
      rw [findIdx_none hk] at KO
      replace KO : Calls Tryd.prog 39 #[.pointer (some ⟨p, ox, none⟩), .int .i64 (roomN size)] w (fun e w' => e = .returned (.pointer none) ∧ Ext [] w w') := KO
      simp only [Option.isSome_none, Bool.false_or]
      clear hH hk hO r1 r2 hpe
      generalize roomN size = rm at *
      generalize pgN size = n at *
      generalize big H.R = bg at *
      have HD : Hid (decide (n ≤ bg) = decide ((n : Int) ≤ bg)) := by show _ = _; rw [decide_eq_decide]; omega
      go_enter Tryd.func14, Tryd.ntmps14
      go_wp2_with (first | (go_at_call 37; refine met K ?_) | (go_at_call 38; refine met (KP _) ?_) | (go_at_call 39; refine KO.mono ?_; clear KO; rintro e w1 ⟨rfl, hE1⟩; have KL1 := KL w1 hE1; replace hE1 := hid hE1; clear KL) | (go_at_call 40; refine KL1.mono ?_; clear KL1; rintro e w2 ⟨rfl, hE2⟩; replace hE2 := hid hE2) | fail "no arm")
      go_ret
      exact ⟨by rw [HD.out]; rfl, hE1.out.trans hE2.out⟩
  · have hpe : pgE size = 2 := by unfold pgE; rw [if_neg hO]
    rw [hpe] at K
    simp only [hO, decide_false, Bool.false_and]
    generalize rmV size = rv at *
    clear hH hO hpe
    go_enter Tryd.func14, Tryd.ntmps14
    go_wp2_with (first | (go_at_call 37; refine met K ?_) | fail "no arm")
    go_ret
    exact ⟨rfl, Ext.refl _ _⟩

end

end Go.Proofs.YtlajjcboahflbaaDoor
