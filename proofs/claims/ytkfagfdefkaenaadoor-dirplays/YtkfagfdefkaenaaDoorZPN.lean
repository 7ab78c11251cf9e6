/-
  RhD: joined by program; no statement is proved here.
-/
import Derived.Test.YtkfagfdefkaenaaDoorZPK
import Derived.Test.YtkfagfdefkaenaaDoorZPM
import Derived.Test.YtkfagfdefkaenaaDoorZPL
/-
  The document's Insert; no statement is proved here.
-/
namespace Go.Proofs.YtkfagfdefkaenaaDoor.Rf
open Go.RowKit Go.Shelf
open Pr (Gp GpI)
attribute [local go_sem] Oper.semAt_some run_store_func

/-- What the document's Insert leaves. -/
def RinPost (h d dp pd : Nat) (L : List Tq) (R0 : List Rc) (W0 w : World) (e : Ending) (w' : World) : Prop := Ext [] W0 w' ∧ Ext (foot pd R0) w w' ∧
  ((∃ dp' L' qd cd R, InsD h d dp L (some (dp', L')) ∧ e = .returned (.bool true) ∧ Rd w' pd qd cd dp' L' R ∧ Low W0.heap.size pd qd R ∧ NwR pd R0 w R) ∨
   (∃ qd cd R, InsD h d dp L none ∧ e = .returned (.bool false) ∧ Rd w' pd qd cd dp L R ∧ Low W0.heap.size pd qd R ∧ NwR pd R0 w R))
/-- The directory, round by round. -/
structure RiI (W0 w : World) (R0 : List Rc) (pd h d r dp0 : Nat) (L : List Tq) (W : World) : Prop where
  ex : ∃ dp qd cd L' R, Dq dp L' ∧ Rd W pd qd cd dp L' R ∧ Low W0.heap.size pd qd R ∧ RmE h d dp0 L dp L' ∧ (∀ A t B, TabOf dp L' A t B h → mu t ≤ r) ∧ NwR pd R0 w R
  ext : Ext [] W0 W
  fx : Ext (foot pd R0) w W
theorem mid_at {R : List Rc} {a : Nat} {r : Rc} (h : R[a]? = some r) : R = R.take a ++ r :: R.drop (a + 1) ∧ (R.take a).length = a := by
  have ha := (List.getElem?_eq_some_iff.1 h).1
  refine ⟨?_, by rw [List.length_take]; omega⟩
  have e := (List.take_append_drop a R).symm
  rw [List.drop_eq_getElem_cons ha] at e
  rw [List.getElem?_eq_getElem ha] at h
  rw [Option.some.inj h] at e
  exact e
theorem low_grow {lo pd qd : Nat} {R : List Rc} {a : Nat} {r n0 : Rc} (h : Low lo pd qd R) (hr : R[a]? = some r) (hp : n0.pt = r.pt) (hq : lo ≤ n0.p ∧ lo ≤ n0.q) : Low lo pd qd (R.take a ++ n0 :: R.drop (a + 1)) := by
  refine ⟨h.1, h.2.1, fun s hs => ?_⟩
  rcases List.mem_append.1 hs with q | q
  · exact h.2.2 s (List.mem_of_mem_take q)
  · rcases List.mem_cons.1 q with q | q
    · rw [q, hp]
      exact ⟨(h.2.2 r (List.mem_of_getElem? hr)).1, hq⟩
    · exact h.2.2 s (List.mem_of_mem_drop q)
set_option maxRecDepth 100000 in
set_option maxHeartbeats 4000000 in
theorem rdins_any (pd qd cd dp h d : Nat) (L : List Tq) (R : List Rc) (hD : Dq dp L) (hG : G2 L) (hh : h < 18446744073709551616) (hd : d < 18446744073709551616) (W0 w : World) (hX : Ext [] W0 w) (hlo : Low W0.heap.size pd qd R) (hR : Rd w pd qd cd dp L R) :
    Calls Tryd.prog 18 #[.pointer (some ⟨pd, 0, none⟩), .int .u64 (h : Nat), .int .u64 (d : Nat)] w (RinPost h d dp pd L R W0 w) := by
  have HI : Hid (∃ r, RiI W0 w R pd h d r dp L w) := by
    obtain ⟨A, t, B, hTo⟩ := tab_of hD hh
    refine ⟨13, ⟨dp, qd, cd, L, R, hD, hR, hlo, RmE.refl h d dp L, fun A t B _ => ?_, NwR.refl pd R w⟩, hX, Ext.refl _ _⟩
    unfold mu
    split <;> omega
  have HD0 := hid hD
  have HG0 := hid hG
  clear hX hlo hR hD hG
  go_enter Tryd.func18, Tryd.ntmps18
  go_wp2_with fail
  obtain ⟨r0, hI0⟩ := HI.out
  refine wp_loop_down (fun r a W => RiI W0 w R pd h d r dp L W ∧ ∃ u7 u8 u9 u10 u11 u12 u13 u14 u15 u16 u17 u18 u19 u20 u21 u22 u23 u24 u25 u26 u27 u28 u29 u30 u31 u32 u33 u34 u35 u36 u37 u38 u39 u40 u41 u42 u43 u44 u45 u46 u47 u48 u49 u50 u51 u52 u53 u54 u55 u56 u57 u58 u59 u60 u61 u62 u63 u64 u65 u66 u67 u68 u69 u70 u71 u72 u73 u74 u75 : Value, a = { tmps := #[.pointer (some ⟨pd, 0, none⟩), .int .u64 (h : Nat), .int .u64 (d : Nat), undef, undef, undef, .bool false, u7, u8, u9, u10, u11, u12, u13, u14, u15, u16, u17, u18, u19, u20, u21, u22, u23, u24, u25, u26, u27, u28, u29, u30, u31, u32, u33, u34, u35, u36, u37, u38, u39, u40, u41, u42, u43, u44, u45, u46, u47, u48, u49, u50, u51, u52, u53, u54, u55, u56, u57, u58, u59, u60, u61, u62, u63, u64, u65, u66, u67, u68, u69, u70, u71, u72, u73, u74, u75], defers := [] }) r0 ⟨hI0, _, _, _, _, _, _, _, _, _, _, _, _, _, _, _, _, _, _, _, _, _, _, _, _, _, _, _, _, _, _, _, _, _, _, _, _, _, _, _, _, _, _, _, _, _, _, _, _, _, _, _, _, _, _, _, _, _, _, _, _, _, _, _, _, _, _, _, _, _, rfl⟩ ?_
  rintro r a W ⟨hI, u7, u8, u9, u10, u11, u12, u13, u14, u15, u16, u17, u18, u19, u20, u21, u22, u23, u24, u25, u26, u27, u28, u29, u30, u31, u32, u33, u34, u35, u36, u37, u38, u39, u40, u41, u42, u43, u44, u45, u46, u47, u48, u49, u50, u51, u52, u53, u54, u55, u56, u57, u58, u59, u60, u61, u62, u63, u64, u65, u66, u67, u68, u69, u70, u71, u72, u73, u74, u75, rfl⟩
  clear hI0 HI
  obtain ⟨⟨dp', qd', cd', L', R', hD', hR', hlo', hPm, hmu, hnw⟩, hext, hfx⟩ := hI
  obtain ⟨A, t, B, hTo⟩ := tab_of hD' hh
  obtain rfl := hTo.eq
  have KT := rtab_any pd qd' cd' dp' h _ A B t R' hD' hh hTo W hR'
  obtain ⟨rc, hrc⟩ : ∃ rc, R'[A.length]? = some rc := ⟨_, List.getElem?_eq_getElem (by rw [hR'.len]; simp)⟩
  obtain ⟨b1, hRt⟩ := hR'.tab A.length rc t hrc (by simp)
  obtain ⟨cs, hcs, hcs2⟩ := hR'.row
  have hsd := hTo.ot.sd
  have hn64 := hD'.len
  obtain ⟨n, hn⟩ : ∃ n, (A ++ t :: B).length = n := ⟨_, rfl⟩
  obtain ⟨ds, hds, _⟩ := hRt.row
  obtain ⟨a, ha⟩ : ∃ a, A.length = a := ⟨_, rfl⟩
  have hn2 : a < n := by rw [← hn, ← ha, List.length_append, List.length_cons]; omega
  rw [hn] at hn64
  have hai : (a : Int) < n := by omega
  have hk4 : (0 : Int) ≤ (a : Int) := by omega
  have hbk := hR'.blk
  rw [hn] at hbk
  rw [ha] at hrc b1 KT
  obtain ⟨le, hle⟩ : ∃ le, lea dp' (A ++ t :: B) a t = le := ⟨_, rfl⟩
  rw [hle] at b1
  have hcs3 := hcs2 _ rc hrc
  have n1 : pd ∉ [rc.q] := by
    intro e
    rw [List.mem_singleton.1 e, hds] at hbk
    simp at hbk
  have n2 : qd' ∉ [rc.q] := by
    intro e
    rw [List.mem_singleton.1 e, hds] at hcs
    simp at hcs
  have n3 : rc.pt ∉ [rc.q] := by
    intro e
    rw [List.mem_singleton.1 e, hds] at b1
    simp at b1
  have KI := fun u (hu : Ext [] W u) => (rins_any rc.p rc.q rc.c t.G h d t.T u (hRt.keep0 hu) hsd.shp.gp hh).mono (R' := fun e w' => ∃ bb, e = .returned (.bool bb) ∧ Ext [rc.q] u w' ∧ Hid (One (InsT t.T t.G h d) rc t bb w')) (fun e w' hp => by obtain ⟨bb, a, b⟩ := ins_one hsd hh hd hp.1; exact ⟨bb, a, hp.2, b⟩)
  have hlq := (hlo'.2.2 rc (List.mem_of_getElem? hrc)).2.2
  have HNw := hid hnw
  have HFx := hid hfx
  have hnr := hnw rc (List.mem_of_getElem? hrc)
  have HNr := hid hnr
  have HR := hid hR'
  have HT := hid hTo
  have HX := hid hext
  have Hr := hid hrc
  have HLo := hid hlo'
  have HPm := hid hPm
  have HMu := hid hmu
  have HD := hid hD'
  have HN := hid hn
  have HA := hid ha
  have HSd := hid hsd
  have HLe := hid hle
  have Hbk := hid hbk
  have Hb1 := hid b1
  have Hcs := hid hcs
  clear hnw hfx hnr hR' hTo hext hrc hlo' hPm hmu hD' hn ha hsd hle hbk b1 hcs hRt hds hcs2
  go_wp2_with fail
  refine KT.mono ?_
  clear KT
  rintro _ w1 ⟨rfl, hE1⟩
  have f1 : w1.cell? ⟨pd, 1, none⟩ = some (.slice (some ⟨qd', 0, none⟩) n cd') := by rw [cell_of_row _ _ _ _ _ _ (hE1.keep Hbk.out (by simp))]; rfl
  have f2 : w1.cell? ⟨qd', a, none⟩ = some (.pointer (some ⟨rc.pt, 0, none⟩)) := by rw [cell_of_row _ _ _ _ _ _ (hE1.keep Hcs.out (by simp))]; exact hcs3
  have f3 : w1.cell? ⟨rc.pt, 2, none⟩ = some (.pointer (some ⟨rc.p, 0, none⟩)) := by rw [cell_of_row _ _ _ _ _ _ (hE1.keep Hb1.out (by simp))]; rfl
  have KI1 := KI w1 hE1
  have HE1 := hid hE1
  clear KI hE1
  go_wp2_with fail
  refine KI1.mono ?_
  clear KI1
  rintro _ w2 ⟨bb, rfl, hE2, hO⟩
  have hX2 := (HX.out.trans HE1.out).on hE2 (by simpa using hlq)
  have hEE : Ext [rc.q] W w2 := (HE1.out.mono (by simp)).trans hE2
  have hfx2 : Ext (foot pd R) w w2 := fx_step HFx.out hEE (fun x hx => by rw [List.mem_singleton] at hx; rw [hx]; exact HNr.out.2)
  rcases hO.out with ⟨rfl, T', hI, hRt'⟩ | ⟨rfl, hno, hRt'⟩
  · have HF : Hid (RinPost h d dp pd L R W0 w (.returned (.bool true)) w2) := ⟨hX2, hfx2, .inl ⟨dp', _, qd', cd', R', ⟨dp', A ++ t :: B, HPm.out, A, t, B, T', HT.out, HD.out.le, hI, rfl, rfl⟩, rfl, HR.out.upd (by rw [HA.out]; exact Hr.out) hEE hRt', HLo.out, HNw.out⟩⟩
    clear f1 f2 f3 hE2 hO hX2 hfx2 hEE n1 n2 n3
    go_wp2_with fail
    go_ret
    exact HF.out
  · have hR2 : Rd w2 pd qd' cd' dp' (A ++ t :: B) R' := HR.out.upd (by rw [HA.out]; exact Hr.out) hEE hRt'
    obtain ⟨b1, hRt2⟩ := hR2.tab a rc t Hr.out (by rw [← HA.out]; simp)
    rw [HLe.out] at b1
    have hbk := hR2.blk
    rw [HN.out] at hbk
    have f0 := hRt2.flds.1
    have f1 : w2.cell? ⟨pd, 1, none⟩ = some (.slice (some ⟨qd', 0, none⟩) n cd') := by rw [cell_of_row _ _ _ _ _ _ hbk]; rfl
    have f2 : w2.cell? ⟨qd', a, none⟩ = some (.pointer (some ⟨rc.pt, 0, none⟩)) := by
      obtain ⟨cs4, h4, h5⟩ := hR2.row
      rw [cell_of_row _ _ _ _ _ _ h4]; exact h5 _ rc Hr.out
    have f3 : w2.cell? ⟨rc.pt, 0, none⟩ = some (.int .i64 (t.d : Nat)) := by rw [cell_of_row _ _ _ _ _ _ b1]; rfl
    have f4 : w2.frozen? ⟨rc.pt, 2, none⟩ = false := frozen_of_row _ _ _ _ _ b1
    have f5 : w2.cell? ⟨rc.pt, 2, none⟩ = some (.pointer (some ⟨rc.p, 0, none⟩)) := by rw [cell_of_row _ _ _ _ _ _ b1]; rfl
    have hG4 := HSd.out.shp.gp.le
    have KL := rlen_any rc.p rc.q rc.c t.G t.T w2 hRt2 hG4
    rw [knt_full, ← ents_tot] at KL
    obtain ⟨en, hen⟩ : ∃ en, (ents t.T t.G).length = en := ⟨_, rfl⟩
    rw [hen] at KL
    have h7 := sd_len7 HSd.out
    rw [hen] at h7
    have hG0 := HSd.out.shp.gp.pos
    have KG := fun (M : Nat) (hM : Gp M) (hl : nfl t.T t.G ≤ 7 * M) u (hu : Ext [] w2 u) => rgrow_ok rc.p rc.q rc.c t.G M t.T u (hRt2.keep0 hu) HSd.out hM hl
    rw [← ents_tot, hen] at KG
    have hz2 := ins_left HSd.out hno
    have HB1 := hid b1
    -- a table that has grown
    have fin : ∀ (M p1 q1 : Nat) (X : List Nat) (u : World), M = rmG t → (2 * (ents t.T t.G).length ≤ 7 * t.G ∨ t.G = 1 ∨ (¬ t.d < 6 ∧ t.G < 4096)) → Ext [] w2 u → Rt u p1 q1 (8 * M) M X → Fil X M (ents t.T t.G) → w2.heap.size ≤ p1 → w2.heap.size ≤ q1 → ∃ r', r' < r ∧ RiI W0 w R pd h d r' dp L (u.setCell ⟨rc.pt, 2, none⟩ (.pointer (some ⟨p1, 0, none⟩))) := by
      intro M p1 q1 X u hM hcase hu hT hF hp hq
      subst hM
      have hst := Ext.setCell [rc.pt] u ⟨rc.pt, 2, none⟩ (.pointer (some ⟨p1, 0, none⟩)) (by simp)
      have hbu := heap_setCell_same u rc.pt 2 _ 80 (.pointer (some ⟨p1, 0, none⟩)) (hu.keep HB1.out (by simp))
      simp only [List.setIfInBounds_toArray, List.set_cons_succ, List.set_cons_zero] at hbu
      obtain ⟨hm1, hm2⟩ := mid_at Hr.out
      have hR3 := hR2
      rw [hm1] at hR3
      have hpt : rc.pt < w2.heap.size := (rd_old hR2 Hr.out).1
      have hlp := (HLo.out.2.2 rc (List.mem_of_getElem? Hr.out)).1
      have hsW := hX2.size
      have hgr := rd_grow (n0 := ⟨rc.pt, p1, q1, 8 * rmG t⟩) hR3 (by rw [hm2, HA.out]) ((hu.mono (by simp)).trans hst) rfl (by rw [HA.out, HLe.out]; exact hbu) (hT.keep hst (by simp; omega) (by simp; omega)) ⟨hp, hq⟩
      have hmt := HMu.out A t B HT.out
      have hm1' : 1 ≤ mu t := by unfold mu; rw [if_pos hz2]; omega
      have hstp : Stp h d dp' (A ++ t :: B) dp' (A ++ ⟨t.d, rmG t, X⟩ :: B) := ⟨A, t, B, HT.out, hno, HD.out.le, .inr ⟨X, hcase, hF, rfl, rfl⟩⟩
      refine ⟨r - 1, by omega, ⟨dp', qd', cd', _, _, stp_dq HD.out hstp, hgr, low_grow HLo.out Hr.out rfl ⟨by show _ ≤ p1; omega, by show _ ≤ q1; omega⟩, HPm.out.step hstp, fun A' t' B' hT' => ?_, fun s hs => ?_⟩, (hX2.trans hu).on hst (by simpa using hlp), fx_step (fx_step hfx2 hu (by simp)) hst (fun x hx => by rw [List.mem_singleton] at hx; rw [hx]; exact HNr.out.1)⟩
      rotate_left
      · have hsz2 := hfx2.size
        rcases List.mem_append.1 hs with q | q
        · exact HNw.out s (List.mem_of_mem_take q)
        · rcases List.mem_cons.1 q with q | q
          · subst q
            exact ⟨HNr.out.1, .inr (by show _ ≤ q1; omega)⟩
          · exact HNw.out s (List.mem_of_mem_drop q)
      have := mu_grow HT.out hF.toHol (rm_len HSd.out) hz2 HD.out.le hT'
      omega
    have hnp : pd ∉ [rc.pt] := by
      have := ((rd_ne hR2).2 rc t a Hr.out (by rw [← HA.out]; simp)).1
      simpa using fun e => this e.symm
    have hnq : qd' ∉ [rc.pt] := by
      have := ((rd_ne hR2).2 rc t a Hr.out (by rw [← HA.out]; simp)).2.1
      simpa using fun e => this e.symm
    have HHen := hid hen
    have HR2 := hid hR2
    have HX2 := hid hX2
    have HFx2 := hid hfx2
    have HNo := hid hno
    have HZ2 := hid hz2
    have HFin := hid fin
    clear hE2 hO hX2 hfx2 hEE n1 n2 n3 hRt' hR2 hRt2 b1 hbk hno hz2 fin hen
    go_wp2_with fail
    refine met KL ?_
    clear KL
    by_cases h1 : 2 * en ≤ 7 * t.G
    · have h1' : (2 : Int) * (en : Int) ≤ 7 * (t.G : Int) := by omega
      have K1 := fun u hu => KG t.G HSd.out.shp.gp (by omega) u hu
      have HFn := HFin.out t.G
      clear KG
      go_wp2_with fail
      go_region_held3 (fun w' => w'.cell? ⟨pd, 1, none⟩ = some (.slice (some ⟨qd', 0, none⟩) n cd') ∧ w'.cell? ⟨qd', a, none⟩ = some (.pointer (some ⟨rc.pt, 0, none⟩)))
        (first | exact ⟨hE3.cell f1 (by simp), hE3.cell f2 (by simp)⟩ | exact ⟨f1, f2⟩ | exact ⟨(Ext.setCell [rc.pt] w3 _ _ (by simp)).cell (hE3.cell f1 (by simp)) hnp, (Ext.setCell [rc.pt] w3 _ _ (by simp)).cell (hE3.cell f2 (by simp)) hnq⟩ | go_keep)
        (first | (go_at_call 47; refine (K1 _ (Ext.drew [] w2)).mono ?_; rintro _ w3 ⟨p1, q1, X, rfl, hT3, hF3, hp3, hq3, hE3⟩; have fz := frozen_of_row w3 rc.pt 2 _ 80 (hE3.keep HB1.out (by simp)); have cz : w3.cell? ⟨rc.pt, 2, none⟩ = some (.pointer (some ⟨rc.p, 0, none⟩)) := hE3.cell f5 (by simp)) | fail "no arm")
      obtain HFF := hid (HFn p1 q1 X w3 (by unfold rmG; rw [if_pos (by rw [HHen.out]; exact h1)]) (.inl (by rw [HHen.out]; exact h1)) ((Ext.drew [] w2).trans hE3) hT3 hF3 hp3 hq3)
      clear HFn HFin hT3 hF3 hE3 K1 f1 f2 f3
      go_wp2_with fail
      obtain ⟨r', hr', hI'⟩ := HFF.out
      exact ⟨r', hr', hI', _, _, _, _, _, _, _, _, _, _, _, _, _, _, _, _, _, _, _, _, _, _, _, _, _, _, _, _, _, _, _, _, _, _, _, _, _, _, _, _, _, _, _, _, _, _, _, _, _, _, _, _, _, _, _, _, _, _, _, _, _, _, _, _, _, _, _, _, _, rfl⟩
    · have h1' : ¬ ((2 : Int) * (en : Int) ≤ 7 * (t.G : Int)) := by omega
      by_cases h2 : t.G = 1
      · have h2' : ((t.G : Int) == 1) = true := by simp [h2]
        have K1 := fun u hu => KG 2 gp2 (by omega) u hu
        have HFn := HFin.out 2
        simp only [show ((2 : Nat) : Int) = 2 from rfl] at K1
        have H2 := hid h2
        clear h2
        clear KG
        go_wp2_with fail
        go_region_held3 (fun w' => w'.cell? ⟨pd, 1, none⟩ = some (.slice (some ⟨qd', 0, none⟩) n cd') ∧ w'.cell? ⟨qd', a, none⟩ = some (.pointer (some ⟨rc.pt, 0, none⟩)))
          (first | exact ⟨hE3.cell f1 (by simp), hE3.cell f2 (by simp)⟩ | exact ⟨f1, f2⟩ | exact ⟨(Ext.setCell [rc.pt] w3 _ _ (by simp)).cell (hE3.cell f1 (by simp)) hnp, (Ext.setCell [rc.pt] w3 _ _ (by simp)).cell (hE3.cell f2 (by simp)) hnq⟩ | go_keep)
          (first | (go_at_call 47; refine (K1 _ (Ext.drew [] w2)).mono ?_; rintro _ w3 ⟨p1, q1, X, rfl, hT3, hF3, hp3, hq3, hE3⟩; have fz := frozen_of_row w3 rc.pt 2 _ 80 (hE3.keep HB1.out (by simp)); have cz : w3.cell? ⟨rc.pt, 2, none⟩ = some (.pointer (some ⟨rc.p, 0, none⟩)) := hE3.cell f5 (by simp)) | fail "no arm")
        obtain HFF := hid (HFn p1 q1 X w3 (by unfold rmG; rw [if_neg (by rw [HHen.out]; exact h1), if_pos H2.out]) (.inr (.inl H2.out)) ((Ext.drew [] w2).trans hE3) hT3 hF3 hp3 hq3)
        clear HFn HFin hT3 hF3 hE3 K1 f1 f2 f3
        go_wp2_with fail
        obtain ⟨r', hr', hI'⟩ := HFF.out
        exact ⟨r', hr', hI', _, _, _, _, _, _, _, _, _, _, _, _, _, _, _, _, _, _, _, _, _, _, _, _, _, _, _, _, _, _, _, _, _, _, _, _, _, _, _, _, _, _, _, _, _, _, _, _, _, _, _, _, _, _, _, _, _, _, _, _, _, _, _, _, _, _, _, _, _, rfl⟩
      · have h2' : ((t.G : Int) == 1) = false := by simp; omega
        by_cases h3 : t.d < 6
        · have h3' : (t.d : Int) < 6 := by omega
          have KS := rsplit_any pd qd' cd' dp' a A B t R' rc HD.out h3 HA.out Hr.out W0 w2 HX2.out HLo.out HR2.out HSd.out
          clear KG HFin
          go_wp2_with fail
          refine KS.mono ?_
          clear KS
          rintro _ w3 ⟨hE3, hE3p, v, X0, X1, qd2, cd2, R2, rfl, hF0, hF1, hRd, hLo, hNw2⟩
          have HFF : Hid (∃ r', r' < r ∧ RiI W0 w R pd h d r' dp L w3) := by
            have hstp : Stp h d dp' (A ++ t :: B) (max dp' (t.d + 1)) (A ++ ⟨t.d + 1, t.G, X0⟩ :: ⟨t.d + 1, t.G, X1⟩ :: B) := ⟨A, t, B, HT.out, HNo.out, HD.out.le, .inl ⟨X0, X1, ⟨by rw [HHen.out]; omega, h2, h3⟩, hF0, hF1, rfl, rfl⟩⟩
            have hmt := HMu.out A t B HT.out
            have hm1' : 1 ≤ mu t := by unfold mu; rw [if_pos HZ2.out]; omega
            have hD2 := stp_dq HD.out hstp
            refine ⟨r - 1, by omega, ⟨_, qd2, cd2, _, R2, hD2, hRd, hLo, HPm.out.step hstp, fun A' t' B' hT' => ?_, fun s hs => ?_⟩, hE3, fx_step HFx2.out hE3p (fun x hx => by rw [List.mem_singleton] at hx; rw [hx]; exact .inl foot_pd)⟩
            rotate_left
            · have hsz2 := HFx2.out.size
              rcases hNw2 s hs with q | ⟨q1, q2⟩
              · exact HNw.out s q
              · exact ⟨.inr (by omega), .inr (by omega)⟩
            have := mu_split HD.out HT.out h3 hD2 HZ2.out hT'
            omega
          clear hE3 hE3p hNw2 hF0 hF1 hRd hLo f1 f2 f3 f4 f5
          go_wp2_with fail
          obtain ⟨r', hr', hI'⟩ := HFF.out
          exact ⟨r', hr', hI', _, _, _, _, _, _, _, _, _, _, _, _, _, _, _, _, _, _, _, _, _, _, _, _, _, _, _, _, _, _, _, _, _, _, _, _, _, _, _, _, _, _, _, _, _, _, _, _, _, _, _, _, _, _, _, _, _, _, _, _, _, _, _, _, _, _, _, _, _, rfl⟩
        · have h3' : ¬ (t.d : Int) < 6 := by omega
          by_cases h4 : t.G < 4096
          · skip
            have K1 := fun u hu => KG (2 * t.G) (gp_twice HSd.out.shp.gp h4) (by omega) u hu
            have HFn := HFin.out (2 * t.G)
            simp only [show ((2 * t.G : Nat) : Int) = 2 * (t.G : Int) from by omega] at K1
            have h4' : (t.G : Int) < 4096 := by omega
            have hw : IntKind.i64.wrap (2 * (t.G : Int)) = 2 * (t.G : Int) := by rw [IntKind.wrap_i64]; omega
            clear KG
            go_wp2_with fail
            go_region_held3 (fun w' => w'.cell? ⟨pd, 1, none⟩ = some (.slice (some ⟨qd', 0, none⟩) n cd') ∧ w'.cell? ⟨qd', a, none⟩ = some (.pointer (some ⟨rc.pt, 0, none⟩)))
              (first | exact ⟨hE3.cell f1 (by simp), hE3.cell f2 (by simp)⟩ | exact ⟨f1, f2⟩ | exact ⟨(Ext.setCell [rc.pt] w3 _ _ (by simp)).cell (hE3.cell f1 (by simp)) hnp, (Ext.setCell [rc.pt] w3 _ _ (by simp)).cell (hE3.cell f2 (by simp)) hnq⟩ | go_keep)
              (first | (go_at_call 47; refine (K1 _ (Ext.drew [] w2)).mono ?_; rintro _ w3 ⟨p1, q1, X, rfl, hT3, hF3, hp3, hq3, hE3⟩; have fz := frozen_of_row w3 rc.pt 2 _ 80 (hE3.keep HB1.out (by simp)); have cz : w3.cell? ⟨rc.pt, 2, none⟩ = some (.pointer (some ⟨rc.p, 0, none⟩)) := hE3.cell f5 (by simp)) | fail "no arm")
            obtain HFF := hid (HFn p1 q1 X w3 (by unfold rmG; rw [if_neg (by rw [HHen.out]; exact h1), if_neg h2]) (.inr (.inr ⟨h3, h4⟩)) ((Ext.drew [] w2).trans hE3) hT3 hF3 hp3 hq3)
            clear HFn HFin hT3 hF3 hE3 K1 f1 f2 f3
            go_wp2_with fail
            obtain ⟨r', hr', hI'⟩ := HFF.out
            exact ⟨r', hr', hI', _, _, _, _, _, _, _, _, _, _, _, _, _, _, _, _, _, _, _, _, _, _, _, _, _, _, _, _, _, _, _, _, _, _, _, _, _, _, _, _, _, _, _, _, _, _, _, _, _, _, _, _, _, _, _, _, _, _, _, _, _, _, _, _, _, _, _, _, _, rfl⟩
          · have h4' : ¬ (t.G : Int) < 4096 := by omega
            have HF : Hid (RinPost h d dp pd L R W0 w (.returned (.bool false)) w2) := by
              obtain ⟨k, hk⟩ := HPm.out
              have hfl : Flu h d dp' (A ++ t :: B) := ⟨A, t, B, HT.out, HD.out.le, HNo.out, by omega, by rw [HHen.out]; omega, h2, h3⟩
              obtain ⟨e1, e2⟩ := rmd_flu HD0.out HG0.out hk hfl
              have hR3 := HR2.out
              rw [e1, e2] at hR3
              exact ⟨HX2.out, HFx2.out, .inr ⟨qd', cd', R', ⟨dp', _, HPm.out, hfl⟩, rfl, hR3, HLo.out, HNw.out⟩⟩
            clear KG HFin f4 f5
            go_wp2_with fail
            go_ret
            exact HF.out
end Go.Proofs.YtkfagfdefkaenaaDoor.Rf
