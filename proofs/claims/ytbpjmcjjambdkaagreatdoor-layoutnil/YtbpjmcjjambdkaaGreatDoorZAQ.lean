/-
  FreeI, MMath, Mp, CBase: joined by program; no statement is proved here.
-/
import Derived.Test.YtbpjmcjjambdkaaGreatDoorZAP
import Derived.Test.YtbpjmcjjambdkaaGreatDoorZAI
import Derived.Test.YtbpjmcjjambdkaaGreatDoorZAN
import Derived.Maps.OwnSet
import Derived.Test.YtbpjmcjjambdkaaGreatDoorZAH
import Derived.WalkKit
import Derived.ProofKit
import Derived.Laws.CopyOwn
import Derived.Laws.OwnMore
import Derived.Deep.QuietTactic
import Derived.BigQuiet
import Derived.Deep.WholeRow
import Derived.Deep.AppendLies
import Derived.Deep.RegionHeld3
import Derived.RangeFuncNested
import Derived.RangeFuncBound
import Derived.RangeFuncCalls
import Derived.RangeFuncLeaves
import Derived.Shelf.Abstract
import Derived.Shelf.RegionOpen
import Derived.OwnWalkIn
import Derived.TacticsInMore
import Derived.LoopNIn
import Derived.LoopIn
import Derived.Maps.AppendAt
/-
  Free where the last object of a span goes; Fits; no statement is proved here.
-/
namespace Go.Proofs.YtbpjmcjjambdkaaGreatDoor
open Go.RowKit

section
variable {p ox : Nat} {T : TypeId} {cs : Array Value} {F : Nat → Prop} {H : Hs} {ag og : Nat} {V : Value} {sb : Nat → Nat × Nat} {O : List (Option Nat)}

set_option maxRecDepth 100000 in
set_option maxHeartbeats 8000000 in
theorem hfree_span (k j : Nat) (w : World) (hH : Hm w p ox T cs F H ag og V sb O) (hf : fnd H (adrAt H k j) = some (k, j)) (hu : ¬ 0 < us ((spAt H k).S.set j (0, 0))) :
    Calls Tryz.prog 114 #[.pointer (some ⟨p, ox, none⟩), .int .i64 (adrAt H k j)] w (HPost w p ox T cs F ⟨H.P, relL H.R (runK H.R (spAt H k).st), H.sp.eraseIdx k, H.B⟩ (.int .i64 0)) := by
  have K := find_any (adrAt H k j) w hH
  rw [hf] at K
  simp only [fdV] at K
  obtain ⟨hs, h1, h2⟩ := hH.ok.hit hf
  have KA := hH.addr_dr hs
  have hxs := hH.spans _ hs.mem
  have hP := hs.P1
  have hst := hs.st
  have hl2 := hs.ok.len2 (by omega)
  have hul := us_le (spAt H k).S
  have hud := us_set hs.jl (0, 0)
  rw [if_pos (show 0 < ((spAt H k).S.getD j (0, 0)).1 by unfold slotAt at h2; omega), if_neg (show ¬ 0 < ((0 : Int), (0 : Int)).1 by simp)] at hud
  have KD := fun u (hu : Ext [] w u) => sdrop_any _ _ _ _ _ _ _ j u (hxs.keep hu (by simp) (by simp)) hs.jl hl2 (by omega)
  have hus1 : ((us (spAt H k).S : Int) - 1) = 0 := by omega
  rw [hus1] at KD
  have hos := ty_ne hH.owners hxs.box (by decide)
  have hog := ty_ne hH.owners hxs.row (by decide)
  have hps := ty_ne hH.box.at_ hxs.box hH.ty.2.2.1
  have hpg := ty_ne hH.box.at_ hxs.row hH.ty.2.2.2
  have hpo := ty_ne hH.box.at_ hH.owners hH.ty.2.1
  obtain ⟨rk1, rk2, rk3, rk4, rk5⟩ := hH.ok.runK hs.mem
  have hRl := hH.ok.inv.len
  -- the pages' owners
  have KO : Hid (∀ u w2, Ext [] w u → Sp w2 (sb (spAt H k).st).1 (sb (spAt H k).st).2 (spAt H k).st (spAt H k).n (spAt H k).rm 0 ((spAt H k).S.set j (0, 0)) → Ext [(sb (spAt H k).st).1, (sb (spAt H k).st).2] u w2 →
      Calls Tryz.prog 157 #[.pointer (some ⟨p, ox, none⟩), .pointer (some ⟨(sb (spAt H k).st).1, 0, none⟩), .pointer none] w2 (OwPost ox w2 p og (ownL O (spAt H k).st none (spAt H k).n))) := fun u w2 hue hS hE => by
    have hOw : Ow ox w2 p og O := ((hH.keep0 hue).ow).keep hE (by simp [hps, hpg]) (by simp [hos, hog])
    exact own_any p og _ _ O (spAt H k).st (spAt H k).n _ _ _ none w2 hOw hS (Ne.symm hos) (by rw [hH.olen]; exact hst) (by rw [hH.olen]; exact hP)
  -- the runs
  have hRk : ∀ u w2 w3, Ext [] w u → Ext [(sb (spAt H k).st).1, (sb (spAt H k).st).2] u w2 → Ext [og] w2 w3 → ∀ w4, Ext [] w3 w4 → Rs T ox cs w4 p V H.R := fun u w2 w3 hue hE hE3 w4 hE4 => by
    have a1 : Rs T ox cs w2 p V H.R := ((hH.keep0 hue).rs).keep hE (by simp [hps, hpg]) (fun b hb hv => by
      simp only [List.mem_cons, List.not_mem_nil, or_false] at hb
      rcases hb with rfl | rfl
      · exact own_ne hH.runs hxs.box (by decide) hv
      · exact own_ne hH.runs hxs.row (by decide) hv)
    exact (a1.keep hE3 (by simpa using hpo) (fun b hb hv => by
      simp only [List.mem_singleton] at hb
      subst hb
      exact own_ne hH.runs hH.owners (by decide) hv)).keep0 hE4
  have KF : Hid (∀ u w2 w3, Ext [] w u → Ext [(sb (spAt H k).st).1, (sb (spAt H k).st).2] u w2 → Ext [og] w2 w3 → ∀ w4, Ext [] w3 w4 → Calls Tryz.prog 158 #[.pointer (some ⟨p, ox + 1, none⟩), .int .i64 ((spAt H k).st : Int)] w4 (AlPost T ox cs w4 p V (relL H.R (runK H.R (spAt H k).st)) (.tuple #[.int .i64 (spAt H k).n, .int .i64 0]))) := fun u w2 w3 hue hE hE3 w4 hE4 => by
    have := free_hit p (runK H.R (spAt H k).st) ((spAt H k).st : Int) V H.R w4 (hRk u w2 w3 hue hE hE3 w4 hE4) rk1 rk2 (by omega) hH.ok.inv.few (fun i hi => (rk5 i hi).imp id (fun q h => q (by omega))) (by omega)
    rw [rk4] at this
    exact this
  have HF : Hid (∀ u w2 w3 w4 w5, Ext [] w u → Ext [(sb (spAt H k).st).1, (sb (spAt H k).st).2] u w2 → OwPost ox w2 p og (ownL O (spAt H k).st none (spAt H k).n) (.returned (.tuple #[])) w3 → Ext [] w3 w4 → AlPost T ox cs w4 p V (relL H.R (runK H.R (spAt H k).st)) (.tuple #[.int .i64 (spAt H k).n, .int .i64 0]) (.returned (.tuple #[.int .i64 (spAt H k).n, .int .i64 0])) w5 →
      HPost w p ox T cs F ⟨H.P, relL H.R (runK H.R (spAt H k).st), H.sp.eraseIdx k, H.B⟩ (.int .i64 0) (.returned (.int .i64 0)) w5) := by
    rintro u w2 w3 w4 w5 hue hE2 ⟨_, hOw, hE3⟩ hE4 ⟨V', _, hR, hON, hX⟩
    have z1 := hue.size
    have z2 := hE2.size
    have z3 := hE3.size
    have z4 := hE4.size
    have hall : Ext ((sb (spAt H k).st).1 :: (sb (spAt H k).st).2 :: p :: og :: V.ownBlock.toList) w w5 := by
      refine (((((hue.mono (by simp)).trans (hE2.mono ?_)).trans (hE3.mono ?_)).trans (hE4.mono (by simp))).trans (hX.mono ?_))
      · simp
      · simp
      · intro b hb
        simp only [List.mem_cons] at hb ⊢
        rcases hb with rfl | hb
        · exact .inr (.inr (.inl rfl))
        · exact .inr (.inr (.inr (.inr hb)))
    have hro : w5.heap[og]? = some (.cells (ocells (ownL O (spAt H k).st none (spAt H k).n)).toArray 179 (0, 0)) := by
      have q4 := hE4.keep hOw.row (by simp)
      refine hX.keep q4 ?_
      simp only [List.mem_cons, Option.mem_toList, not_or]
      refine ⟨Ne.symm hpo, fun hv => ?_⟩
      exact own_ne (hRk u w2 w3 hue hE2 hE3 w4 hE4).row q4 (by decide) hv
    refine ⟨rfl, _, ⟨_, _, _, _, _, hH.shed (spAt_get hs.kl) hall hR (hON.imp id (fun q g hg => by have := q g hg; omega)) hro⟩, Fx.of_ext hall ?_, fun _ h => h⟩
    have hfs := hH.fs _ hs.mem
    simp only [List.mem_cons, Option.mem_toList]
    rintro b (rfl | rfl | rfl | rfl | hb)
    · exact .inl (.inr hfs.1)
    · exact .inl (.inr hfs.2)
    · exact .inl (.inl rfl)
    · exact .inl (.inr hH.fo)
    · exact .inl (.inr (hH.fv b hb))
  have hos2 : (sb (spAt H k).st).1 ≠ og := Ne.symm hos
  have hsx : Hid ((sb (spAt H k).st).1 ∉ p :: V.ownBlock.toList) := by
    show _ ∉ _
    simp only [List.mem_cons, not_or]
    exact ⟨Ne.symm hps, hH.vown hxs.box (by decide)⟩
  clear hRk rk1 rk2 rk3 rk4 rk5 hRl hud hul hl2 hst hP hxs h1 h2 hs hf hpo hpg hps hog hus1 hu
  clear hos hH
  generalize relL H.R (runK H.R (spAt H k).st) = R' at *
  generalize H.sp.eraseIdx k = L' at *
  generalize ownL O (spAt H k).st none (spAt H k).n = O' at *
  generalize (spAt H k).S.set j (0, 0) = S' at *
  generalize (sb (spAt H k).st).1 = s at *
  generalize (sb (spAt H k).st).2 = g at *
  generalize (spAt H k).st = st at *
  generalize (spAt H k).n = n at *
  generalize adrAt H k j = ad at *
  go_enter Tryz.func114, Tryz.ntmps114
  go_upto_region 6 with (first | (go_at_call 97; refine K.mono ?_; clear K; rintro e w1 ⟨rfl, m, rfl⟩) | (go_at_call 98; refine (KA _ (Ext.drewN _ _ _) 0).mono ?_; clear KA; rintro e w2 ⟨rfl, m2, rfl⟩) | fail "no arm")
  obtain ⟨u, hu⟩ : ∃ u, u = w.drewN (m + m2) := ⟨_, rfl⟩
  rw [← hu]
  have hue : Hid (Ext [] w u) := by show Ext [] w u; rw [hu]; exact Ext.drewN _ _ _
  have KD1 := KD u hue.out
  clear KD hu
  go_upto_region 10 with (first | (go_at_call 156; refine KD1.mono ?_; clear KD1; rintro e w3 ⟨rfl, hS3, hE3⟩; have c3 := hS3.c3; have c0 := hS3.c0; have KO3 := KO.out u w3 hue.out hS3 hE3; replace hS3 := hid hS3; replace hE3 := hid hE3) | (go_at_call 157; refine KO3.mono ?_; clear KO3; rintro e w4 ⟨rfl, hOw, hE4⟩; replace hOw := hid hOw; replace hE4 := hid hE4; clear c3) | fail "no arm")
  have d0 := hE4.out.cell c0 (by simpa using hos2)
  clear c0
  have KF4 := hid (KF.out u w3 w4 hue.out hE3.out hE4.out)
  clear KF KO
  go_region_held3 (fun w' => w'.cell? ⟨s, 0, none⟩ = some (.int .i64 (st : Nat))) (first | exact h5.out.2.2.cell ((Ext.drew [] _).cell d0 (by simp)) hsx.out | go_keep)
    (first | (go_at_call 158; refine (KF4.out _ (Ext.drew [] _)).mono ?_; rintro e w5 ⟨V5, rfl, h5⟩; replace h5 := hid h5) | fail "no arm")
  go_wp2_with fail
  go_ret
  exact HF.out u w3 w4 _ w5 hue.out hE3.out ⟨rfl, hOw.out, hE4.out⟩ (Ext.drew [] _) ⟨V5, rfl, h5.out⟩

theorem hfree_any (a : Int) (w : World) (hH : Hw w p ox T cs F H) : Calls Tryz.prog 114 #[.pointer (some ⟨p, ox, none⟩), .int .i64 a] w (HPost w p ox T cs F (freeH H a).2 (.int .i64 (freeH H a).1)) := by
  obtain ⟨ag, og, V, sb, O, hH⟩ := hH
  unfold freeH
  split
  · rename_i hf
    exact (hfree_none a w hH hf).mono (by rintro _ _ ⟨rfl, m, rfl⟩; exact hpost_keep hH (Ext.drewN _ _ _) _)
  · rename_i k j hf
    split
    · rename_i he
      subst he
      simp only
      split
      · exact hfree_slot k j w hH hf ‹_›
      · exact hfree_span k j w hH hf ‹_›
    · exact (hfree_in a k j w hH hf ‹_›).mono (by rintro _ _ ⟨rfl, m, rfl⟩; exact hpost_keep hH (Ext.drewN _ _ _) _)

/-- Is there room? -/
def fitsH (H : Hs) (size : Int) : Bool := decide (Ok size) && ((H.sp.findIdx? (fitS (roomN size))).isSome || decide (pgN size ≤ big H.R))

theorem big_hole (R : List Rn) (n : Nat) (h1 : 1 ≤ n) : (hole R n).isSome = decide (n ≤ big R) := by
  have key : ∀ (L : List Rn) (m : Nat), (n ≤ L.foldl (fun m r => if r.u then m else max m r.n) m) ↔ (n ≤ m ∨ ∃ r ∈ L, r.u = false ∧ n ≤ r.n) := by
    intro L
    induction L with
    | nil => intro m; simp
    | cons r L ih =>
      intro m
      rw [List.foldl_cons, ih]
      cases hu : r.u
      · simp only [Bool.false_eq_true, if_false, List.mem_cons, exists_eq_or_imp, hu, true_and]
        rw [show n ≤ max m r.n ↔ n ≤ m ∨ n ≤ r.n by omega, or_assoc]
      · simp only [if_true, List.mem_cons, exists_eq_or_imp, hu]
        simp
  unfold big hole
  rw [List.findIdx?_isSome]
  have := key R 0
  rw [Bool.eq_iff_iff]
  simp only [List.any_eq_true, decide_eq_true_eq, Bool.and_eq_true, Bool.not_eq_true']
  rw [this]
  constructor
  · rintro ⟨r, hr, h⟩; exact .inr ⟨r, hr, h⟩
  · rintro (h | ⟨r, hr, h⟩)
    · omega
    · exact ⟨r, hr, h⟩

set_option maxRecDepth 100000 in
set_option maxHeartbeats 4000000 in
theorem hfits_any (size : Int) (w : World) (hG : Gl w) (hH : Hw w p ox T cs F H) : Calls Tryz.prog 160 #[.pointer (some ⟨p, ox, none⟩), .int .i64 size] w (SayPost w (.bool (fitsH H size))) := by
  obtain ⟨ag, og, V, sb, O, hH⟩ := hH
  have K := room_any size w hG
  unfold fitsH
  by_cases hO : Ok size
  · obtain ⟨r1, r2, p1, p2, _⟩ := room_ok hO
    have hpe : pgE size = 0 := by unfold pgE; rw [if_pos hO]
    have KP := fun u => pages_any size u
    rw [hpe, r2] at KP
    rw [hpe, r1] at K
    have KO := open_any (roomN size) w hH
    have hRl := hH.ok.inv.len
    have hP := hH.ok.P1
    have KL := fun u (hu : Ext [] w u) => largest_of (some ⟨p, ox + 1, none⟩) V H.R u (nowOf_any (hH.keep0 hu).rs) (hH.keep0 hu).runs (by omega)
    simp only [hO, decide_true, Bool.true_and]
    cases hk : H.sp.findIdx? (fitS (roomN size)) with
    | some k =>
      obtain ⟨x, hx, hf, _⟩ := findIdx_find hk
      rw [hf] at KO
      replace KO : Calls Tryz.prog 164 #[.pointer (some ⟨p, ox, none⟩), .int .i64 (roomN size)] w (fun e w' => e = .returned (.pointer (some ⟨(sb x.st).1, 0, none⟩)) ∧ Ext [] w w') := KO
      simp only [Option.isSome_some, Bool.true_or]
      clear hH hk hf hx hO r1 r2 hpe KL
      generalize (sb x.st).1 = s at *
      generalize roomN size = rm at *
      generalize pgN size = n at *
      go_enter Tryz.func160, Tryz.ntmps160
      go_wp2_with (first | (go_at_call 163; refine met K ?_) | (go_at_call 189; refine met (KP _) ?_) | (go_at_call 164; refine KO.mono ?_; clear KO; rintro e w1 ⟨rfl, hE1⟩; replace hE1 := hid hE1) | fail "no arm")
      go_ret
      exact ⟨rfl, hE1.out⟩
    | none =>
      rw [findIdx_none hk] at KO
      replace KO : Calls Tryz.prog 164 #[.pointer (some ⟨p, ox, none⟩), .int .i64 (roomN size)] w (fun e w' => e = .returned (.pointer none) ∧ Ext [] w w') := KO
      simp only [Option.isSome_none, Bool.false_or]
      clear hH hk hO r1 r2 hpe
      generalize roomN size = rm at *
      generalize pgN size = n at *
      generalize big H.R = bg at *
      have HD : Hid (decide (n ≤ bg) = decide ((n : Int) ≤ bg)) := by show _ = _; rw [decide_eq_decide]; omega
      go_enter Tryz.func160, Tryz.ntmps160
      go_wp2_with (first | (go_at_call 163; refine met K ?_) | (go_at_call 189; refine met (KP _) ?_) | (go_at_call 164; refine KO.mono ?_; clear KO; rintro e w1 ⟨rfl, hE1⟩; have KL1 := KL w1 hE1; replace hE1 := hid hE1; clear KL) | (go_at_call 190; refine KL1.mono ?_; clear KL1; rintro e w2 ⟨rfl, hE2⟩; replace hE2 := hid hE2) | fail "no arm")
      go_ret
      exact ⟨by rw [HD.out]; rfl, hE1.out.trans hE2.out⟩
  · have hpe : pgE size = 2 := by unfold pgE; rw [if_neg hO]
    rw [hpe] at K
    simp only [hO, decide_false, Bool.false_and]
    generalize rmV size = rv at *
    clear hH hO hpe
    go_enter Tryz.func160, Tryz.ntmps160
    go_wp2_with (first | (go_at_call 163; refine met K ?_) | fail "no arm")
    go_ret
    exact ⟨rfl, Ext.refl _ _⟩

end

end Go.Proofs.YtbpjmcjjambdkaaGreatDoor

/-
  Memories as plain data: a graph, a heap and what lies where; no statement is proved here.
-/
namespace Go.Proofs.YtbpjmcjjambdkaaGreatDoor

/-! ### the graph with other cells behind it -/

namespace Co

def Gs.wx (G : Gs) (X : Fo) : Gs := { G with X := X }

theorem wx_wx (G : Gs) (X Y : Fo) : (G.wx X).wx Y = G.wx Y := rfl
theorem sh_wx (G : Gs) (X : Fo) (x : Int) : sh (G.wx X) x = (sh G x).wx X := by
  unfold sh shN
  by_cases h : x = -1
  · rw [if_pos h, if_pos h]
  · rw [if_neg h, if_neg h]
    by_cases h1 : (ndAt G.ns x.toNat).c = 1
    · rw [if_pos (by exact h1), if_pos h1]; rfl
    · rw [if_neg (by exact h1), if_neg h1]
theorem shs_wx (X : Fo) (R : List Int) : ∀ G : Gs, R.foldl sh (G.wx X) = (R.foldl sh G).wx X := by
  induction R with
  | nil => intro G; rfl
  | cons x R ih => intro G; rw [List.foldl_cons, List.foldl_cons, sh_wx, ih]
theorem shade_wx (G : Gs) (X : Fo) (x : Int) : shade (G.wx X) x = ((shade G x).1.wx X, (shade G x).2) := by
  unfold shade
  rw [sh_wx]
  by_cases h : lvB G x = false
  · rw [if_pos (by exact h), if_pos h]
  · rw [if_neg (by exact h), if_neg h]
theorem node_wx (G : Gs) (X : Fo) (x : Int) : node (G.wx X) x = ((node G x).1.wx X, (node G x).2) := by
  have hf : fr (G.wx X) = fr G := rfl
  have hn : nodeG (G.wx X) x.toNat = (nodeG G x.toNat).wx X := by
    unfold nodeG
    rw [hf]
    by_cases h : fr G = 65536
    · rw [if_pos h, if_pos h]; rfl
    · rw [if_neg h, if_neg h]; rfl
  unfold node
  rw [hf, hn]
  by_cases h : x < 0 ∨ 8192 < x
  · rw [if_pos h, if_pos h]
  · rw [if_neg h, if_neg h]
    by_cases h : fr G = 65536
    · rw [if_pos h, if_pos h]
    · rw [if_neg h, if_neg h]
theorem setG_wx (G : Gs) (X : Fo) (n j : Nat) (x : Int) : setG (G.wx X) n j x = (setG G n j x).wx X := by
  unfold setG
  rw [show ((G.wx X).ns) = G.ns from rfl, sh_wx, sh_wx]
  rfl
theorem set_wx (G : Gs) (X : Fo) (n j x : Int) : set (G.wx X) n j x = ((set G n j x).1.wx X, (set G n j x).2) := by
  unfold set
  rw [setG_wx, show (G.wx X).ns = G.ns from rfl, show lvB (G.wx X) = lvB G from rfl]
  split
  · rfl
  · split
    · rfl
    · split <;> rfl
theorem start_wx (G : Gs) (X : Fo) (R : List Int) : start (G.wx X) R = ((start G R).1.wx X, (start G R).2) := by
  have h := shs_wx X R { G with ph := 1, ns := G.ns.map wh }
  have e : ({ (G.wx X) with ph := 1, ns := (G.wx X).ns.map wh } : Gs) = ({ G with ph := 1, ns := G.ns.map wh } : Gs).wx X := rfl
  unfold start
  rw [e, h, show lvB (G.wx X) = lvB G from rfl, show (G.wx X).ph = G.ph from rfl]
  split
  · rfl
  · split <;> rfl
theorem mark_wx (G : Gs) (X : Fo) : mark (G.wx X) = (mark G).wx X := by
  unfold mark
  rw [show (G.wx X).ln = G.ln from rfl]
  cases G.ln with
  | nil => rfl
  | cons x t =>
    simp only
    rw [show (G.wx X).ns = G.ns from rfl]
    split
    · rfl
    · rw [← sh_wx]; rfl
theorem sweep_wx (G : Gs) (X : Fo) : sweep (G.wx X) = ((sweep G).1.wx X, (sweep G).2) := by
  unfold sweep
  rw [show (G.wx X).pl = G.pl from rfl, show (G.wx X).en = G.en from rfl, show (G.wx X).ns = G.ns from rfl]
  split
  · rfl
  · split <;> rfl
theorem unit_wx (G : Gs) (X : Fo) : unit (G.wx X) = ((unit G).1.wx X, (unit G).2) := by
  unfold unit
  rw [mark_wx, sweep_wx, show (G.wx X).ph = G.ph from rfl]
  split <;> rfl
theorem work_wx (X : Fo) : ∀ (u : Nat) (G : Gs), work u (G.wx X) = ((work u G).1, (work u G).2.1, (work u G).2.2.wx X)
  | 0, G => rfl
  | u + 1, G => by
    unfold work
    rw [show (G.wx X).ph = G.ph from rfl, unit_wx]
    split
    · rfl
    · simp only
      rw [work_wx X u]
theorem Iv.wx {G : Gs} (h : Iv G) (X : Fo) : Iv (G.wx X) := ⟨h.len, h.col, h.sl, h.lo, h.no, h.cl, h.ph, h.idle, h.grey, h.nd, h.tri, h.trg, h.pe, h.le, h.les⟩

end Co

/-! ### a memory -/

/-- An object: its node, and of each word its slot (-1: none). -/
structure Mo where
  nd : Int
  sl : List Int

structure Ms where
  G : Co.Gs
  H : Hs
  ob : Int → Option Mo
  ad : Int → Option Int
  pc : Int
  sn : Int
  cn : Nat

/-- The live object that begins at an address. -/
def fndM (M : Ms) (a : Int) : Option Mo := match M.ob a with
  | some o => if Co.lvB M.G o.nd then some o else none
  | none => none

/-- The nodes of roots. -/
def nodesM (M : Ms) : List Int → Option (List Int)
  | [] => some []
  | a :: R => if a = 0 then nodesM M R else match fndM M a with
    | none => none
    | some o => match nodesM M R with
      | none => none
      | some l => some (o.nd :: l)

/-- The slots of an object's words, the first free slot being c. -/
def slotsF : List Bool → Nat → List Int
  | [], _ => []
  | true :: t, c => (c : Int) :: slotsF t (c + 1)
  | false :: t, c => -1 :: slotsF t c
def cntT (ps : List Bool) : Nat := ps.countP id
theorem slotsF_len (ps : List Bool) : ∀ c, (slotsF ps c).length = ps.length := by
  induction ps with
  | nil => intro c; rfl
  | cons b t ih => intro c; cases b <;> simp [slotsF, ih]

def updO {α : Type} (f : Int → Option α) (k : Int) (v : Option α) : Int → Option α := fun x => if x = k then v else f x

def holdM (M : Ms) (l : List Int) : Ms := { M with G := l.foldl (fun G n => (Co.shade G n).1) M.G }
def beginM (M : Ms) (l : List Int) : Ms := { M with G := (Co.start M.G l).1, sn := if (Co.start M.G l).2 = 0 then 0 else M.sn }
def beginE (M : Ms) (l : List Int) : Int := (Co.start M.G l).2
def adrM (M : Ms) (n : Int) : Int := (M.ad n).getD 0
def freeM (M : Ms) (n : Int) : Ms := { M with H := (freeH M.H (adrM M n)).2, ob := updO M.ob (adrM M n) none, ad := updO M.ad n none }
def workM (M : Ms) (u : Nat) : Ms := ((Co.work u M.G).2.1.map Int.ofNat).foldl freeM { M with G := (Co.work u M.G).2.2 }
def workL (M : Ms) (u : Nat) : Nat := (Co.work u M.G).1
def finishM (M : Ms) : Ms := workM M 9223372036854775807
def cycleM (M : Ms) (l : List Int) : Ms := finishM (beginM M l)
def fitsM (M : Ms) (n : Int) : Bool := decide (1 ≤ n ∧ n ≤ 8192) && fitsH M.H (n * 8)
def room1 (M : Ms) (n : Int) : Ms := if fitsM M n then M else finishM M
def roomM (M : Ms) (n : Int) (l : List Int) : Ms := if fitsM (room1 M n) n then room1 M n else cycleM (room1 M n) l
def placeM (M : Ms) (ps : List Bool) (tag : Int) : Ms × Int × Int :=
  if (Co.node M.G (cntT ps : Int)).2.2 ≠ 0 then ({ M with G := (Co.node M.G (cntT ps : Int)).1 }, 0, (Co.node M.G (cntT ps : Int)).2.2)
  else if (allocH M.H (ps.length * 8) tag).2.1 ≠ 0 then ({ M with G := (Co.node M.G (cntT ps : Int)).1, H := (allocH M.H (ps.length * 8) tag).2.2 }, 0, (allocH M.H (ps.length * 8) tag).2.1)
  else ({ M with
      G := (Co.node M.G (cntT ps : Int)).1
      H := (allocH M.H (ps.length * 8) tag).2.2
      ob := updO M.ob (allocH M.H (ps.length * 8) tag).1 (some ⟨(Co.node M.G (cntT ps : Int)).2.1, slotsF ps 0⟩)
      ad := updO M.ad (Co.node M.G (cntT ps : Int)).2.1 (some (allocH M.H (ps.length * 8) tag).1)
      sn := M.sn + ps.length
      cn := M.cn + 1 }, (allocH M.H (ps.length * 8) tag).1, 0)

end Go.Proofs.YtbpjmcjjambdkaaGreatDoor

/-
  Maps from ints, as they lie in memory, with values of any kind; no statement is proved here.
-/
namespace Go.Proofs.YtbpjmcjjambdkaaGreatDoor
open Go.RowKit Go.Maps

/-- An element reads as itself. -/
def Rv (v : Value) : Option (DataW Value × List MemPlace) := some (.held v, [])

/-- Block b is a map with at most N entries, of which f tells what stands at each key. -/
def Mp (w : World) (b : Nat) (N : Nat) (f : Int → Option Value) : Prop :=
  ∃ D : DataW Value, w.ownsMap Tryz.prog 3 Rv b N D ∧ IsMap D ∧ ∀ k, I64 k → Maps.has D (.int .i64 k) = (f k).isSome ∧ ∀ z, D.atKey (.int .i64 k) z = ((f k).map DataW.held).getD z

theorem keyed3 : Keyed Tryz.prog 3 := int_keyed Tryz.underlying3
theorem key_int {k : Int} (h : I64 k) : keyOf Tryz.prog 3 (.int .i64 k) = some (.int .i64 k) := keyOf_int_mk Tryz.underlying3 (by unfold I64 at h; simp [Lit.wf, IntKind.min, IntKind.max, IntKind.signed, IntKind.bits]; omega)

/-- Another function's value at one key. -/
def upd (f : Int → Option Value) (k : Int) (v : Option Value) : Int → Option Value := fun x => if x = k then v else f x

theorem Mp.new (w : World) : Mp (w.alloc (.map #[] 0)) w.heap.size 0 (fun _ => none) :=
  ⟨.map [], World.ownsMap_made w _ _ _, isMap_empty, fun _ _ => ⟨rfl, fun _ => rfl⟩⟩
theorem Mp.lt {w : World} {b N : Nat} {f : Int → Option Value} (h : Mp w b N f) : b < w.heap.size := by
  obtain ⟨D, h, _⟩ := h; exact h.lt
theorem Mp.keepB {w w' : World} {b N : Nat} {f : Int → Option Value} (h : Mp w b N f) (x : w'.heap[b]? = w.heap[b]?) : Mp w' b N f := by
  obtain ⟨D, ⟨es, clock, h1, h2⟩, h3⟩ := h
  exact ⟨D, ⟨es, clock, x.trans h1, h2⟩, h3⟩
theorem Mp.keep {B : Nat → Prop} {w w' : World} {b N : Nat} {f : Int → Option Value} (h : Mp w b N f) (x : Fx B w w') (hb : ¬ B b) : Mp w' b N f := h.keepB (x.block b h.lt hb)

theorem Mp.look {w : World} {b N : Nat} {f : Int → Option Value} (h : Mp w b N f) {t e : TypeId} (ht : Tryz.prog.underlying t = some (.map 3 e)) {z : Value} (hz : (zeroValue e).run Tryz.prog w = .ok z w) {k : Int} (hk : I64 k) (c : Bool) :
    (Instr.lookup t (.map (some b)) (.int .i64 k) c).run Tryz.prog w = .ok (if c then .tuple #[(f k).getD z, .bool (f k).isSome] else (f k).getD z) w := by
  obtain ⟨D, ⟨es, clock, hb, F, _, rfl⟩, _, hf⟩ := h
  have h1 := (hf k hk).2
  rcases Maps.fit_look c keyed3 ht hz hb F (key_int hk) with ⟨hrun, _, hat⟩ | ⟨e0, y, _, _, hrun, hRv, hat, _⟩
  · have h2 := (hat .nil).symm.trans (h1 .nil)
    cases hq : f k with
    | none => rw [hrun]; simp
    | some v => rw [hq] at h2; simp at h2
  · have h2 := (hat .nil).symm.trans (h1 .nil)
    unfold Rv at hRv
    cases hRv
    cases hq : f k with
    | none => rw [hq] at h2; simp at h2
    | some v =>
      rw [hq] at h2
      simp at h2
      rw [hrun, h2]; simp
theorem Mp.len_le {w : World} {b N : Nat} {f : Int → Option Value} (h : Mp w b N f) {n : Nat} (hn : N ≤ n) : Mp w b n f := by
  obtain ⟨D, h1, h2⟩ := h
  exact ⟨D, h1.mono hn, h2⟩

theorem ext_turned {w w' : World} {b : Nat} (h : w.mapTurned w' b) : Ext [b] w w' := Ext.grown h.grown (by intro k hk; cases hk; simp)

theorem Mp.put {w : World} {b N : Nat} {f : Int → Option Value} (h : Mp w b N f) {t e : TypeId} (ht : Tryz.prog.underlying t = some (.map 3 e)) (hN : N < maxLen) {k : Int} (hk : I64 k) (v : Value) :
    ∃ w', (Instr.mapUpdate t (.map (some b)) (.int .i64 k) v).run Tryz.prog w = .ok () w' ∧ Mp w' b (N + 1) (upd f k (some v)) ∧ Ext [b] w w' := by
  obtain ⟨D, h1, h2, hf⟩ := h
  obtain ⟨w', hr, ho, ht⟩ := h1.store (d := .held v) (ps := []) keyed3 ht hN (key_int hk) rfl
  refine ⟨w', hr, ⟨_, ho, h2.put _ _, fun x hx => ?_⟩, ext_turned ht⟩
  have hkk : WideAt.IsKeyLit (.int .i64 k) := trivial
  by_cases e : x = k
  · subst e
    simp only [upd, if_true]
    exact ⟨has_put_same h2 hkk _, fun z => atKey_put_same h2 hkk _ _⟩
  · have hne : Lit.int .i64 x ≠ Lit.int .i64 k := by simpa using e
    simp only [upd, if_neg e]
    exact ⟨(has_put_other hne _).trans (hf x hx).1, fun z => (atKey_put_other hne _ _).trans ((hf x hx).2 z)⟩
theorem Mp.del {w : World} {b N : Nat} {f : Int → Option Value} (h : Mp w b N f) {t e : TypeId} (ht : Tryz.prog.underlying t = some (.map 3 e)) {k : Int} (hk : I64 k) (ty : TypeId) :
    ∃ w', (Builtin.delete_ #[t, 3] ty #[.map (some b), .int .i64 k]).run Tryz.prog w = .ok (.tuple #[]) w' ∧ Mp w' b N (upd f k none) ∧ Ext [b] w w' := by
  obtain ⟨D, h1, h2, hf⟩ := h
  obtain ⟨w', hr, ho, ht⟩ := h1.drop keyed3 ht (key_int hk) ty
  refine ⟨w', hr, ⟨_, ho, h2.del _, fun x hx => ?_⟩, ext_turned ht⟩
  by_cases e : x = k
  · subst e
    simp only [upd, if_true]
    exact ⟨by rw [has_del_same]; rfl, fun z => atKey_del_same _⟩
  · have hne : Lit.int .i64 x ≠ Lit.int .i64 k := by simpa using e
    simp only [upd, if_neg e]
    exact ⟨(has_del_other hne).trans (hf x hx).1, fun z => (atKey_del_other hne _).trans ((hf x hx).2 z)⟩

end Go.Proofs.YtbpjmcjjambdkaaGreatDoor

/-
  Worlds, slices of one's own, lists of numbers and nets as they lie in memory; no statement is proved here.
-/
namespace Go.Proofs.YtbpjmcjjambdkaaGreatDoor.Co
open Go.RowKit

/-! ### contracts met in a walk -/

/-- A callee that answers v and leaves the world as it is. -/
theorem met {P : Program} {f : FuncId} {args : Array Value} {w : World} {v : Value} {K : Ending → World → Prop} (h : Calls P f args w fun e w' => e = .returned v ∧ w' = w) (hK : K (.returned v) w) : Calls P f args w K :=
  h.mono (by rintro _ _ ⟨rfl, rfl⟩; exact hK)

theorem hid {p : Prop} (h : p) : Hid p := h

/-! ### worlds -/

/-- The world w' is as w was but for the blocks of S and for what is new. -/
structure Ext (S : List Nat) (w w' : World) : Prop where
  os : w'.os = w.os
  tape : w'.tape = w.tape
  output : w'.output = w.output
  size : w.heap.size ≤ w'.heap.size
  block : ∀ k, k < w.heap.size → k ∉ S → w'.heap[k]? = w.heap[k]?

theorem Ext.refl (S : List Nat) (w : World) : Ext S w w := ⟨rfl, rfl, rfl, Nat.le_refl _, fun _ _ _ => rfl⟩
theorem Ext.trans {S : List Nat} {a b c : World} (h : Ext S a b) (k : Ext S b c) : Ext S a c :=
  ⟨k.os.trans h.os, k.tape.trans h.tape, k.output.trans h.output, Nat.le_trans h.size k.size, fun i hi hs => (k.block i (Nat.lt_of_lt_of_le hi h.size) hs).trans (h.block i hi hs)⟩
theorem Ext.mono {S T : List Nat} {a b : World} (h : Ext S a b) (hs : ∀ x ∈ S, x ∈ T) : Ext T a b :=
  ⟨h.os, h.tape, h.output, h.size, fun i hi hk => h.block i hi (fun q => hk (hs i q))⟩
/-- Blocks that are new need not be named. -/
theorem Ext.drop {S T : List Nat} {a b : World} (h : Ext S a b) (hs : ∀ x ∈ S, x ∈ T ∨ a.heap.size ≤ x) : Ext T a b :=
  ⟨h.os, h.tape, h.output, h.size, fun i hi hk => h.block i hi (fun q => by rcases hs i q with r | r; exact hk r; omega)⟩
theorem Ext.below {a b : World} (h : Ext [] a b) : Below a.heap.size a b := ⟨h.os, h.tape, h.output, h.size, fun k hk => h.block k hk (by simp)⟩
theorem Ext.drew (S : List Nat) (w : World) : Ext S w w.drew := ⟨rfl, rfl, rfl, Nat.le_refl _, fun _ _ _ => rfl⟩
theorem Ext.drewN (S : List Nat) (w : World) (n : Nat) : Ext S w (w.drewN n) := ⟨rfl, rfl, rfl, Nat.le_refl _, fun _ _ _ => rfl⟩
theorem Ext.alloc (S : List Nat) (w : World) (o : Obj) : Ext S w (w.alloc o) := ⟨rfl, rfl, rfl, by simp, fun k hk _ => Below.heap_alloc w o k hk⟩
theorem Ext.setCell (S : List Nat) (w : World) (a : Addr) (v : Value) (h : a.block ∈ S) : Ext S w (w.setCell a v) :=
  ⟨rfl, rfl, rfl, by simp, fun k _ hs => heap_setCell_other w a k v (fun e => hs (e ▸ h))⟩
theorem Ext.setRow (S : List Nat) (w : World) (g : Nat) (cs : Array Value) (h : g ∈ S) : Ext S w (w.setRow g cs) :=
  ⟨rfl, rfl, rfl, by simp, fun k _ hs => setRow_other w g k cs (fun e => hs (e ▸ h))⟩
theorem Ext.grown {S : List Nat} {w w' : World} {row : Option Nat} (hg : w.grownBy w' row) (h : ∀ k, row = some k → k ∈ S) : Ext S w w' :=
  ⟨hg.os, hg.tape, hg.output, hg.size, fun k hk hs => hg.block k hk (fun e => hs (h k e.symm))⟩
/-- Behind a step that turned only what is new since a. -/
theorem Ext.on {S : List Nat} {a b c : World} (h : Ext [] a b) (k : Ext S b c) (hs : ∀ x ∈ S, a.heap.size ≤ x) : Ext [] a c :=
  ((h.mono (by simp)).trans k).drop (fun x hx => .inr (hs x hx))

theorem lt_of_heap {w : World} {k : Nat} {o : Obj} (h : w.heap[k]? = some o) : k < w.heap.size := (Array.getElem?_eq_some_iff.1 h).1
theorem Ext.keep {S : List Nat} {w w' : World} (h : Ext S w w') {k : Nat} {o : Obj} (hk : w.heap[k]? = some o) (hs : k ∉ S) : w'.heap[k]? = some o :=
  (h.block k (lt_of_heap hk) hs).trans hk
theorem Ext.cell {S : List Nat} {w w' : World} (h : Ext S w w') {a : Addr} {v : Value} (hk : w.cell? a = some v) (hs : a.block ∉ S) : w'.cell? a = some v := by
  rw [← hk]
  exact World.cell?_of_block (h.block a.block (block_lt_of_cell hk) hs)

/-- The answer v, and nothing that was there has turned. -/
def SayPost (w : World) (v : Value) (e : Ending) (w' : World) : Prop := e = .returned v ∧ Ext [] w w'

theorem own_keep {S : List Nat} {w w' : World} {base : Nat} {e : TypeId} {s : Nat} {v : Value} {n : Nat} {xs : List Value} (h : w.ownsRow base e s v n xs) (x : Ext S w w') (hs : ∀ b ∈ S, v.ownBlock ≠ some b) : w'.ownsRow base e s v n xs := by
  refine ⟨h.1, ?_⟩
  rcases h.2 with h | ⟨g, cap, cur, rfl, h1, h2, h3⟩
  · exact .inl h
  · exact .inr ⟨g, cap, cur, rfl, h1, x.keep h2 (fun hg => hs g hg rfl), h3⟩
theorem own_keep0 {w w' : World} {base : Nat} {e : TypeId} {s : Nat} {v : Value} {n : Nat} {xs : List Value} (h : w.ownsRow base e s v n xs) (x : Ext [] w w') : w'.ownsRow base e s v n xs := own_keep h x (by simp)
theorem own_base {w : World} {base base' : Nat} {e : TypeId} {s : Nat} {v : Value} {n : Nat} {xs : List Value} (h : w.ownsRow base e s v n xs) (hb : base' ≤ base) : w.ownsRow base' e s v n xs := by
  refine ⟨h.1, ?_⟩
  rcases h.2 with h | ⟨g, cap, cur, h0, h1, h2⟩
  · exact .inl h
  · exact .inr ⟨g, cap, cur, h0, by omega, h2⟩
theorem own_nil (w : World) (base : Nat) (e : TypeId) (s : Nat) : w.ownsRow base e s (.slice none 0 0) 0 [] := ⟨by simp, .inl ⟨rfl, rfl⟩⟩

/-- The value is a slice. -/
theorem own_slice {w : World} {base : Nat} {e : TypeId} {s : Nat} {v : Value} {n : Nat} {xs : List Value} (h : w.ownsRow base e s v n xs) : ∃ a c, v = .slice a n c ∧ n ≤ c := by
  rcases h.2 with ⟨rfl, rfl⟩ | ⟨g, cap, cur, rfl, h1, h2, h3, _⟩
  · exact ⟨none, 0, rfl, Nat.le_refl _⟩
  · exact ⟨_, _, rfl, h3⟩
theorem own_lt {w : World} {base : Nat} {e : TypeId} {s n : Nat} {v : Value} {xs : List Value} (h : w.ownsRow base e s v n xs) : ∀ g, v.ownBlock = some g → base ≤ g ∧ g < w.heap.size := by
  intro g hg
  rcases h.2 with ⟨rfl, _⟩ | ⟨g', cap, cur, rfl, h1, h2, _⟩
  · simp [Value.ownBlock] at hg
  · simp [Value.ownBlock] at hg
    subst hg
    exact ⟨h1, lt_of_heap h2⟩

theorem info_parts {P : Program} {t : TypeId} {z : Value} {s b : Nat} (h : (P.info? t).map (fun i => (i.zero, i.size, i.bytes)) = some (some z, s, b)) : ∃ i, P.info? t = some i ∧ i.zero = some z ∧ i.size = s ∧ i.bytes = b := by
  cases hq : P.info? t with
  | none => simp [hq] at h
  | some i =>
    simp [hq] at h
    exact ⟨i, rfl, h.1, h.2.1, h.2.2⟩
/-- append, met by what its run is known to be. -/
theorem wpList_append_run {P : Program} {w w' : World} {ops : Array Oper} {rest : List Oper} {o : Oper} {a : Act} {Q : Exit → Act → World → Prop} (hgd : o.guard = none) (s x : Operand) (t : TypeId)
    (ho : o.op = .call { callee := .builtin .append, args := #[s, x], argTypes := #[t, t] }) (vs vx v' : Value) (hs : a.eval s = vs) (hx : a.eval x = vx)
    (hr : (Builtin.append_ #[t, t] o.type #[vs, vx]).run P w = .ok v' w') (h : wpList P ops Q rest (a.put o.dst v') w') : wpList P ops Q (o :: rest) a w := by
  refine wpList_plain hgd fun K hK => ?_
  unfold Oper.wp execOp
  simp only [ho, resolve, invoke, builtin, Sem.run_bind, Sem.run_pure, Result.andThen_ok, List.map_toArray, List.map_cons, List.map_nil, hs, hx, hr]
  exact hK _ _ h


theorem own_ne {w : World} {base : Nat} {e e' : TypeId} {s n : Nat} {v : Value} {xs : List Value} {cs : Array Value} {k : Nat} (h : w.ownsRow base e s v n xs) (hk : w.heap[k]? = some (.cells cs e' (0, 0))) (he : e' ≠ e) : v.ownBlock ≠ some k := by
  intro hv
  rcases h.2 with ⟨rfl, _⟩ | ⟨g, cap, cur, rfl, h1, h2, _⟩
  · simp [Value.ownBlock] at hv
  · simp [Value.ownBlock] at hv
    subst hv
    rw [hk] at h2
    simp at h2
    exact he h2.2
theorem below_ext {a b : World} (h : Below a.heap.size a b) : Ext [] a b := ⟨h.os, h.tape, h.output, h.size, fun k hk _ => h.block k hk⟩
theorem ext_grown {w w' : World} {v : Value} (hg : w.grownBy w' v.ownBlock) : Ext v.ownBlock.toList w w' := Ext.grown hg (by intro q hq; simp [hq])

theorem info3 : (Tryz.prog.info? 3).map (fun i => (i.zero, i.size, i.bytes)) = some (some (.int .i64 0), 1, 8) := by kernel_rfl
theorem info4 : (Tryz.prog.info? 4).map (fun i => (i.zero, i.size, i.bytes)) = some (some (.bool false), 1, 1) := by kernel_rfl
theorem info29 : (Tryz.prog.info? 29).map (fun i => (i.zero, i.size, i.bytes)) = some (some (.slice none 0 0), 1, 24) := by kernel_rfl

/-! ### slices -/

/-- A slice with the elements vs, each of one cell, wherever it lies. -/
def Vs (w : World) (a : Option Addr) (vs : List Value) : Prop :=
  vs = [] ∨ ∃ b o, a = some ⟨b, o, none⟩ ∧ ∀ j, j < vs.length → w.cell? ⟨b, o + j, none⟩ = vs[j]?

theorem Vs.keep {S : List Nat} {w w' : World} {a : Option Addr} {vs : List Value} (h : Vs w a vs) (e : Ext S w w') (hs : ∀ ad, a = some ad → ad.block ∉ S) : Vs w' a vs := by
  rcases h with h | ⟨b, o, rfl, hc⟩
  · exact .inl h
  · refine .inr ⟨b, o, rfl, fun j hj => ?_⟩
    have h1 := hc j hj
    obtain ⟨v, hv⟩ : ∃ v, vs[j]? = some v := ⟨vs[j], by simp [hj]⟩
    rw [hv] at h1 ⊢
    exact e.cell h1 (hs ⟨b, o, none⟩ rfl)
theorem Vs.keep0 {w w' : World} {a : Option Addr} {vs : List Value} (h : Vs w a vs) (e : Ext [] w w') : Vs w' a vs := h.keep e (by simp)

/-- A slice of ints. -/
def Is (w : World) (a : Option Addr) (xs : List Int) : Prop := Vs w a (xs.map (Value.int .i64))
theorem Is.keep0 {w w' : World} {a : Option Addr} {xs : List Int} (h : Is w a xs) (e : Ext [] w w') : Is w' a xs := Vs.keep0 h e
theorem Is.at_ {w : World} {a : Option Addr} {xs : List Int} (h : Is w a xs) (h0 : xs ≠ []) : ∃ b o, a = some ⟨b, o, none⟩ ∧ ∀ j, j < xs.length → w.cell? ⟨b, o + j, none⟩ = some (.int .i64 (xs.getD j 0)) := by
  rcases h with h | ⟨b, o, h, hc⟩
  · simp at h; exact absurd h h0
  · refine ⟨b, o, h, fun j hj => ?_⟩
    rw [hc j (by simpa using hj)]; simp [hj]

/-- A slice of bools. -/
def Os (w : World) (a : Option Addr) (xs : List Bool) : Prop := Vs w a (xs.map Value.bool)
theorem Os.keep0 {w w' : World} {a : Option Addr} {xs : List Bool} (h : Os w a xs) (e : Ext [] w w') : Os w' a xs := Vs.keep0 h e
theorem Os.at_ {w : World} {a : Option Addr} {xs : List Bool} (h : Os w a xs) (h0 : xs ≠ []) : ∃ b o, a = some ⟨b, o, none⟩ ∧ ∀ j, j < xs.length → w.cell? ⟨b, o + j, none⟩ = some (.bool (xs.getD j false)) := by
  rcases h with h | ⟨b, o, h, hc⟩
  · simp at h; exact absurd h h0
  · refine ⟨b, o, h, fun j hj => ?_⟩
    rw [hc j (by simpa using hj)]; simp [hj]

theorem own_vs {w : World} {base : Nat} {e : TypeId} {a : Option Addr} {m n c : Nat} {xs : List Value} (h : w.ownsRow base e 1 (.slice a m c) n xs) : Vs w a xs := by
  have hl := h.1
  rcases h.2 with ⟨h1, h2⟩ | ⟨g, cap, cur, h0, h1, h2, h3, h4, h5, h6⟩
  · left
    exact List.length_eq_zero_iff.1 (by omega)
  · right
    cases h0
    refine ⟨g, 0, rfl, fun j hj => ?_⟩
    rw [Nat.zero_add, cell_of_row w g j _ _ _ h2]
    have : (cur.toList.take (m * 1))[j]? = cur[j]? := by
      rw [List.getElem?_take, if_pos (by omega)]; simp
    rw [← this, h6]
theorem run_append_none {P : Program} (w : World) (base : Nat) (t ty e : TypeId) (i : TypeInfo) (size : Nat) (ht : P.underlying t = some (.slice e)) (hi : P.info? e = some i)
    (v : Value) (n : Nat) (xs : List Value) (hown : w.ownsRow base e size v n xs) (c : Nat) : (Builtin.append_ #[t, t] ty #[v, .slice none 0 c]).run P w = .ok v w := by
  rcases hown.2 with ⟨rfl, rfl⟩ | ⟨g, cap, cur, rfl, _, _, hnc, _⟩
  · simp [Builtin.append_, run_underlying ht, sizeOf, typeInfo, hi, Builtin.lenOf, Builtin.firstCells]
  · simp [Builtin.append_, run_underlying ht, sizeOf, typeInfo, hi, Builtin.lenOf, Builtin.firstCells, hnc, storeCells]

/-- append of elements of one cell each onto a slice of one's own: only what is new since w0 turns. -/
theorem app_own (w0 w : World) (hE : Ext [] w0 w) (t ty e : TypeId) (z : Value) (B : Nat) (ht : Tryz.prog.underlying t = some (.slice e)) (hi : (Tryz.prog.info? e).map (fun i => (i.zero, i.size, i.bytes)) = some (some z, 1, B)) (hzs : z.cells.size = 1) (hB : 1 ≤ B)
    (v : Value) (n : Nat) (xs : List Value) (hown : w.ownsRow w0.heap.size e 1 v n xs) (a : Option Addr) (m c : Nat) (ys : List Value) (hm : ys.length = m) (hys : Vs w a ys) (h1 : ∀ u ∈ ys, u.oneCell' = true) (hb : (n + m) * B ≤ 140737488355328) :
    ∃ v' w', (Builtin.append_ #[t, t] ty #[v, .slice a m c]).run Tryz.prog w = .ok v' w' ∧ w'.ownsRow w0.heap.size e 1 v' (n + m) (xs ++ ys) ∧ Ext [] w0 w' ∧ Ext v.ownBlock.toList w w' := by
  obtain ⟨i, hi0, hz0, hz1, hz2⟩ := info_parts hi
  have hnm : n + m ≤ 140737488355328 := Nat.le_trans (Nat.le_mul_of_pos_right _ (by omega)) hb
  have hlt := own_lt hown
  have fin : ∀ w', w.grownBy w' v.ownBlock → Ext [] w0 w' ∧ Ext v.ownBlock.toList w w' := fun w' hg => by
    have h2 := Ext.grown (S := v.ownBlock.toList) hg (by intro k hk; simp [hk])
    exact ⟨hE.on h2 (fun x hx => (hlt x (by simpa using hx)).1), h2⟩
  rcases hys with rfl | ⟨b, o, rfl, hc⟩
  · simp only [List.length_nil] at hm
    subst hm
    cases a with
    | none =>
      refine ⟨v, w, run_append_none w w0.heap.size t ty e i 1 ht hi0 v n xs hown c, by simpa using hown, hE, Ext.refl _ _⟩
    | some ad =>
      obtain ⟨v', w', hr, ho, hg, _⟩ := run_append_own (P := Tryz.prog) w w0.heap.size t ty e i z 1 B ht hi0 hz0 hz1 hz2 hzs (by decide) v n xs hown ad 0 c [] (by simp) (by simp) (by simp) (by unfold maxLen; omega) hb hE.size
      exact ⟨v', w', hr, ho, fin w' hg⟩
  · obtain ⟨v', w', hr, ho, hg, _⟩ := run_append_own (P := Tryz.prog) w w0.heap.size t ty e i z 1 B ht hi0 hz0 hz1 hz2 hzs (by decide) v n xs hown ⟨b, o, none⟩ m c ys (by omega) (fun j u hu => by
        have hj : j < ys.length := (List.getElem?_eq_some_iff.1 hu).1
        rw [Addr.add_lit, hc j hj, hu]) h1 (by unfold maxLen; omega) hb hE.size
    exact ⟨v', w', hr, ho, fin w' hg⟩

/-- A new slice of a literal's own. -/
theorem vs_new (w : World) (e : TypeId) (ys : List Value) : Vs (w.alloc (.cells ys.toArray e)) (some ⟨w.heap.size, 0, none⟩) ys := by
  right
  refine ⟨_, 0, rfl, fun j hj => ?_⟩
  rw [cell_of_row _ _ _ _ _ _ (heap_alloc_new w _)]
  simp

theorem own_at {w : World} {base : Nat} {e : TypeId} {s n : Nat} {v : Value} {xs : List Value} (h : w.ownsRow base e s v n xs) {q : Nat} (hq : v.ownBlock = some q) : ∃ cur, w.heap[q]? = some (.cells cur e (0, 0)) := by
  rcases h.2 with ⟨rfl, _⟩ | ⟨g, cap, cur, rfl, h1, h2, _⟩
  · simp [Value.ownBlock] at hq
  · simp [Value.ownBlock] at hq
    subst hq
    exact ⟨cur, h2⟩
theorem own_apart {w : World} {base base' : Nat} {e e' : TypeId} {s s' n n' : Nat} {v v' : Value} {xs xs' : List Value} (h : w.ownsRow base e s v n xs) (h' : w.ownsRow base' e' s' v' n' xs') (hne : e' ≠ e) : ∀ q ∈ v'.ownBlock.toList, v.ownBlock ≠ some q := fun q hq => by
  obtain ⟨cur, h2⟩ := own_at h' (by simpa using hq)
  exact own_ne h h2 hne

/-! ### nets -/

/-- A list of a net, as a value. -/
def lsAt (M : List (List Int)) (i : Nat) : List Int := M.getD i []

/-- A net in memory. -/
structure Nt (w : World) (a : Option Addr) (M : List (List Int)) : Prop where
  at_ : M = [] ∨ ∃ b o, a = some ⟨b, o, none⟩ ∧ ∀ i, i < M.length → ∃ fa fc, w.cell? ⟨b, o + i, none⟩ = some (.slice fa (lsAt M i).length fc) ∧ Is w fa (lsAt M i) ∧ (lsAt M i).length ≤ fc ∧ (lsAt M i).length ≤ 17592186044416
  len : M.length ≤ 5864062014805

theorem Nt.keep0 {w w' : World} {a : Option Addr} {M : List (List Int)} (h : Nt w a M) (e : Ext [] w w') : Nt w' a M := by
  refine ⟨?_, h.len⟩
  rcases h.at_ with h | ⟨b, o, rfl, hc⟩
  · exact .inl h
  · refine .inr ⟨b, o, rfl, fun i hi => ?_⟩
    obtain ⟨fa, fc, h1, h2, h3⟩ := hc i hi
    exact ⟨fa, fc, e.cell h1 (by simp), h2.keep0 e, h3⟩
theorem Nt.addr {w : World} {a : Option Addr} {M : List (List Int)} (h : Nt w a M) (h0 : 0 < M.length) : ∃ b o, a = some ⟨b, o, none⟩ ∧ ∀ i, i < M.length → ∃ fa fc, w.cell? ⟨b, o + i, none⟩ = some (.slice fa (lsAt M i).length fc) ∧ Is w fa (lsAt M i) ∧ (lsAt M i).length ≤ fc ∧ (lsAt M i).length ≤ 17592186044416 := by
  rcases h.at_ with rfl | h
  · simp at h0
  · exact h
theorem Is.cell {w : World} {a : Option Addr} {xs : List Int} (h : Is w a xs) {j : Nat} (hj : j < xs.length) : ∃ b o, a = some ⟨b, o, none⟩ ∧ w.cell? ⟨b, o + j, none⟩ = some (.int .i64 (xs.getD j 0)) := by
  obtain ⟨b, o, h1, h2⟩ := h.at_ (by intro e; rw [e] at hj; simp at hj)
  exact ⟨b, o, h1, h2 j hj⟩
theorem Os.cell {w : World} {a : Option Addr} {xs : List Bool} (h : Os w a xs) {j : Nat} (hj : j < xs.length) : ∃ b o, a = some ⟨b, o, none⟩ ∧ w.cell? ⟨b, o + j, none⟩ = some (.bool (xs.getD j false)) := by
  obtain ⟨b, o, h1, h2⟩ := h.at_ (by intro e; rw [e] at hj; simp at hj)
  exact ⟨b, o, h1, h2 j hj⟩

end Go.Proofs.YtbpjmcjjambdkaaGreatDoor.Co
