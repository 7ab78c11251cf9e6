/-
  RgC, RgD: joined by program; no statement is proved here.
-/
import Derived.Test.YtkfagfdefkaenaaDoorZM
import Derived.Test.YtkfagfdefkaenaaDoorZPG
/-
  Room in a directory, with the words determined; no statement is proved here.
-/
namespace Go.Proofs.YtkfagfdefkaenaaDoor.Rf
open Go.RowKit Go.Shelf
open Pr (Gp GpI sq pl)
attribute [local go_sem] Oper.semAt_some run_store_func

/-- How many groups a table gets that is grown. -/
def rmG (t : Tq) : Nat := if 2 * (ents t.T t.G).length ≤ 7 * t.G then t.G else if t.G = 1 then 2 else 2 * t.G
def RmPost (w : World) (zd lo dp n bt bs : Nat) (A : List Tq) (t : Tq) (B : List Tq) (e : Ending) (w' : World) : Prop :=
  (e = .returned (.bool false) ∧ Ext [] w w' ∧ 4096 ≤ t.G ∧ 7 * t.G < 2 * (ents t.T t.G).length ∧ t.G ≠ 1 ∧ ¬ t.d < 6) ∨
  (e = .returned (.bool true) ∧ Ext [zd, bt] w w' ∧
    ((∃ X0 X1 bt' ct' bs' cs', (7 * t.G < 2 * (ents t.T t.G).length ∧ t.G ≠ 1 ∧ t.d < 6) ∧ Fil X0 t.G (hf t.d 0 (ents t.T t.G)) ∧ Fil X1 t.G (hf t.d 1 (ents t.T t.G)) ∧ Dx w' zd lo (max dp (t.d + 1)) (A.length + B.length + 2) bt' ct' bs' cs' (A ++ ⟨t.d + 1, t.G, X0⟩ :: ⟨t.d + 1, t.G, X1⟩ :: B)) ∨
     (∃ X ct' cs', (2 * (ents t.T t.G).length ≤ 7 * t.G ∨ t.G = 1 ∨ (¬ t.d < 6 ∧ t.G < 4096)) ∧ Fil X (rmG t) (ents t.T t.G) ∧ (ents t.T t.G).length < 7 * rmG t ∧ Dx w' zd lo dp n bt ct' bs cs' (A ++ ⟨t.d, rmG t, X⟩ :: B))))
set_option maxRecDepth 100000 in
set_option maxHeartbeats 4000000 in
theorem room_any (zd lo dp n bt ct bs cs h : Nat) (A : List Tq) (t : Tq) (B : List Tq) (hD : Dq dp (A ++ t :: B)) (hh : h < 18446744073709551616) (hTo : TabOf dp (A ++ t :: B) A t B h) (w : World) (hx : Dx w zd lo dp n bt ct bs cs (A ++ t :: B)) (hlo : lo ≤ w.heap.size) (hTb : Tb w) :
    Calls Tryd.prog 43 #[.pointer (some ⟨zd, 0, none⟩), .int .u64 (h : Nat)] w (RmPost w zd lo dp n bt bs A t B) := by
  have hn := hx.len
  have hn64 := hD.len
  rw [hn] at hn64
  rw [List.length_append, List.length_cons] at hn
  have hsd := hTo.ot.sd
  have hdp := hD.le
  have htd := hTo.ot.le
  obtain ⟨i, hi⟩ : ∃ i, A.length = i := ⟨_, rfl⟩
  have p0 : w.cell? ⟨zd, 0, none⟩ = some (.int .i64 (dp : Nat)) := by rw [cell_of_row _ _ _ _ _ _ hx.box]; rfl
  have p1 : w.cell? ⟨zd, 1, none⟩ = some (.slice (some ⟨bt, 0, none⟩) n ct) := by rw [cell_of_row _ _ _ _ _ _ hx.box]; rfl
  have p2 : w.cell? ⟨zd, 2, none⟩ = some (.slice (some ⟨bs, 0, none⟩) (2 ^ dp) cs) := by rw [cell_of_row _ _ _ _ _ _ hx.box]; rfl
  have KT := tabOf_any dp bt n ct bs 0 cs h A.length (slo dp (A ++ t :: B) 0) hdp hh w hx.ns hTo.slot
  unfold dv at KT
  rw [hi] at KT
  have hin : (i : Int) < n := by omega
  have HX := hid hx
  have HD := hid hD
  have HTb := hid hTb
  have HTo := hid hTo
  have HSd := hid hsd
  obtain ⟨m, hm⟩ : ∃ m, 2 ^ dp = m := ⟨_, rfl⟩
  rw [hm] at p2 KT
  clear hx hD hTb hTo hsd
  go_enter Tryd.func43, Tryd.ntmps43
  go_wp2_with (go_at_call 37; refine KT.mono ?_; clear KT p0 p2; rintro _ w1 ⟨rfl, hE1⟩; have p1' := hE1.cell p1 (by simp); obtain ⟨g, c, e1, e2, hTw⟩ := (HX.out.tc.1.keep0 hE1).cells (n := i) (t := t) (by rw [← hi]; simp); have HTw := hid hTw; have HE1 := hid hE1; clear hE1 hTw p1)
  refine met (dgroups_any g c t.G t.T w1 HSd.out.shp HTw.out) ?_
  have KL := len_true (some ⟨g, 0, none⟩) c t.T t.G HSd.out w1 HTw.out.wd
  obtain ⟨en, hen⟩ : ∃ en, t.T.getD 1 0 = en := ⟨_, rfl⟩
  have hel := sd_len HSd.out
  have h7 := sd_len7 HSd.out
  rw [hen] at hel KL
  rw [hel] at h7
  have hG := HSd.out.shp.gp.le
  have hG0 := HSd.out.shp.gp.pos
  go_wp2_with fail
  refine KL.mono ?_
  clear KL
  rintro _ w2 ⟨rfl, hE2⟩
  have f1 := hE2.cell e1 (by simp)
  have f2 := hE2.cell e2 (by simp)
  have hE12 := HE1.out.trans hE2
  have HE12 := hid hE12
  have HTw2 := hid (HTw.out.keep0 hE2)
  have HX2 := hid (show Dx w2 zd lo dp n bt ct bs cs (A ++ t :: B) from ⟨hE12.keep HX.out.box (by simp), HX.out.tc.keep0 hE12, HX.out.ns.keep hE12 (by simp), HX.out.cap, HX.out.len, HX.out.lot, HX.out.los, HX.out.ne⟩)
  have HTb2 := hid (HTb.out.keep0 hE12)
  have Hel := hid hel
  clear hE12 hE2 e1 e2 p1' hen hel hm
  have KG := fun (M : Nat) (hM : Gp M) u (hu : Ext [] w2 u) => tgrow_any (some ⟨g, 0, none⟩) c t.T t.G M HSd.out hM u (HTw2.out.keep0 hu).wd (HTb2.out.keep0 hu)
  have fin : ∀ (M : Nat) (X : List Nat) (g' c' : Nat) (u : World), M = rmG t → (2 * (ents t.T t.G).length ≤ 7 * t.G ∨ t.G = 1 ∨ (¬ t.d < 6 ∧ t.G < 4096)) → Ext [] w2 u → Fil X M (ents t.T t.G) → en < 7 * M → Tw u g' X → RmPost w zd lo dp n bt bs A t B (.returned (.bool true)) (u.setCell ⟨bt, i * 2 + 1, none⟩ (.slice (some ⟨g', 0, none⟩) (3 + 17 * M) c')) := by
    intro M X g' c' u hM hcase hu hH hlt hT
    subst hM
    have hst := Ext.setCell [bt] u ⟨bt, i * 2 + 1, none⟩ (.slice (some ⟨g', 0, none⟩) (3 + 17 * rmG t) c') (by simp)
    have hx2 := HX2.out
    have hzbt : zd ≠ bt := by
      rintro rfl
      obtain ⟨cs', e, _⟩ := hx2.tc.1
      rw [hx2.box] at e; cases e
    refine .inr ⟨rfl, ((HE12.out.trans hu).mono (by simp)).trans (hst.mono (by simp)), .inr ⟨X, ct, cs, hcase, hH, by rw [Hel.out]; exact hlt, hst.keep (hu.keep hx2.box (by simp)) (by simpa using hzbt), ?_, ?_, hx2.cap, ?_, hx2.lot, hx2.los, hx2.ne⟩⟩
    · have := (hx2.tc.keep0 hu).set (t' := ⟨t.d, rmG t, X⟩) rfl (g := g') (c := c') hT
      rw [hi] at this
      exact this
    · rw [slo_rep dp (t := t) (t' := ⟨t.d, rmG t, X⟩) rfl 0]
      exact (hx2.ns.keep hu (by simp)).keep hst (by simpa using fun e => hx2.ne e.symm)
    · have := hx2.len
      rw [List.length_append, List.length_cons] at this ⊢
      exact this
  by_cases h1 : 2 * en ≤ 7 * t.G
  · have h1' : (2 : Int) * (en : Int) ≤ 7 * (t.G : Int) := by omega
    have K1 := KG t.G HSd.out.shp.gp w2 (Ext.refl _ _)
    clear KG
    go_wp2_with fail
    with_reducible refine K1.mono ?_
    clear K1
    rintro _ w3 ⟨hE3, (⟨X, g3, c3, hH, rfl, hT3, hg3⟩ | ⟨hbad, rfl⟩)⟩
    · have f3 := hE3.cell f2 (by simp)
      have fr : w3.frozen? ⟨bt, i * 2 + 1, none⟩ = false := (HX2.out.tc.keep0 hE3).1.frozen _
      have HF := hid (fin t.G X g3 c3 w3 (by unfold rmG; rw [if_pos (by rw [Hel.out]; exact h1)]) (.inl (by rw [Hel.out]; exact h1)) hE3 hH (by omega) hT3)
      clear hE3 hH hT3 fin f1 f2
      go_wp2_with fail
      go_ret
      exact HF.out
    · have := sd_len HSd.out
      have := Hel.out
      (try have := H2.out)
      omega
  · have h1' : ¬ ((2 : Int) * (en : Int) ≤ 7 * (t.G : Int)) := by omega
    by_cases h2 : t.G = 1
    · have h2' : ((t.G : Int) == 1) = true := by simp [h2]
      have K1 := KG 2 gp2 w2 (Ext.refl _ _)
      have H2 := hid h2
      clear h2
      simp only [show ((2 : Nat) : Int) = 2 from rfl] at K1
      clear KG
      go_wp2_with fail
      with_reducible refine K1.mono ?_
      clear K1
      rintro _ w3 ⟨hE3, (⟨X, g3, c3, hH, rfl, hT3, hg3⟩ | ⟨hbad, rfl⟩)⟩
      · have f3 := hE3.cell f2 (by simp)
        have fr : w3.frozen? ⟨bt, i * 2 + 1, none⟩ = false := (HX2.out.tc.keep0 hE3).1.frozen _
        have HF := hid (fin 2 X g3 c3 w3 (by unfold rmG; rw [if_neg (by rw [Hel.out]; exact h1), if_pos H2.out]) (.inr (.inl H2.out)) hE3 hH (by have := H2.out; omega) hT3)
        clear hE3 hH hT3 fin f1 f2
        go_wp2_with fail
        go_ret
        exact HF.out
      · have := sd_len HSd.out
        have := Hel.out
        (try have := H2.out)
        omega
    · have h2' : ((t.G : Int) == 1) = false := by simp; omega
      by_cases h3 : t.d < 6
      · have h3' : (t.d : Int) < 6 := by omega
        have K1 := dsplit_any zd lo dp n bt ct bs cs A t B HD.out h3 w2 HX2.out (Nat.le_trans hlo HE12.out.size) HTb2.out
        rw [hi] at K1
        clear KG fin
        go_wp2_with fail
        with_reducible refine K1.mono ?_
        clear K1
        rintro _ w3 ⟨⟨v, rfl⟩, X0, X1, bt', ct', bs', cs', hH0, hH1, hDx, hE3⟩
        have HF : Hid (RmPost w zd lo dp n bt bs A t B (.returned (.bool true)) w3) := .inr ⟨rfl, (HE12.out.mono (by simp)).trans hE3, .inl ⟨X0, X1, bt', ct', bs', cs', ⟨by rw [Hel.out]; omega, h2, h3⟩, hH0, hH1, hDx⟩⟩
        clear hH0 hH1 hDx hE3
        go_wp2_with fail
        go_ret
        exact HF.out
      · have h3' : ¬ ((t.d : Int) < 6) := by omega
        by_cases h4 : t.G < 4096
        · have h4' : (t.G : Int) < 4096 := by omega
          have K1 := KG (2 * t.G) (gp_twice HSd.out.shp.gp h4) w2 (Ext.refl _ _)
          simp only [show ((2 * t.G : Nat) : Int) = 2 * (t.G : Int) from by push_cast; rfl] at K1
          clear KG
          go_wp2_with fail
          with_reducible refine K1.mono ?_
          clear K1
          rintro _ w3 ⟨hE3, (⟨X, g3, c3, hH, rfl, hT3, hg3⟩ | ⟨hbad, rfl⟩)⟩
          · have f3 := hE3.cell f2 (by simp)
            have fr : w3.frozen? ⟨bt, i * 2 + 1, none⟩ = false := (HX2.out.tc.keep0 hE3).1.frozen _
            have HF := hid (fin (2 * t.G) X g3 c3 w3 (by unfold rmG; rw [if_neg (by rw [Hel.out]; exact h1), if_neg h2]) (.inr (.inr ⟨h3, h4⟩)) hE3 hH (by omega) hT3)
            clear hE3 hH hT3 fin f1 f2
            go_wp2_with fail
            go_ret
            exact HF.out
          · have := sd_len HSd.out
            have := Hel.out
            (try have := H2.out)
            omega
        · have h4' : ¬ ((t.G : Int) < 4096) := by omega
          have HF : Hid (RmPost w zd lo dp n bt bs A t B (.returned (.bool false)) w2) := .inl ⟨rfl, HE12.out, by omega, by rw [Hel.out]; omega, h2, h3⟩
          clear KG fin
          go_wp2_with fail
          go_ret
          exact HF.out
end Go.Proofs.YtkfagfdefkaenaaDoor.Rf

/-
  What Insert makes of a directory is one thing; no statement is proved here.
-/
namespace Go.Proofs.YtkfagfdefkaenaaDoor.Rf
open Go.RowKit Go.Shelf
open Pr (Gp GpI)

/-- Room is made once for a hash. -/
def Stp (h d dp : Nat) (L : List Tq) (dp' : Nat) (L' : List Tq) : Prop := ∃ A t B, TabOf dp L A t B h ∧ InsT t.T t.G h d none ∧ dp ≤ 6 ∧
  ((∃ X0 X1, (7 * t.G < 2 * (ents t.T t.G).length ∧ t.G ≠ 1 ∧ t.d < 6) ∧ Fil X0 t.G (hf t.d 0 (ents t.T t.G)) ∧ Fil X1 t.G (hf t.d 1 (ents t.T t.G)) ∧ dp' = max dp (t.d + 1) ∧ L' = A ++ ⟨t.d + 1, t.G, X0⟩ :: ⟨t.d + 1, t.G, X1⟩ :: B) ∨
   (∃ X, (2 * (ents t.T t.G).length ≤ 7 * t.G ∨ t.G = 1 ∨ (¬ t.d < 6 ∧ t.G < 4096)) ∧ Fil X (rmG t) (ents t.T t.G) ∧ dp' = dp ∧ L' = A ++ ⟨t.d, rmG t, X⟩ :: B))
/-- The entry finds its place. -/
def Fin (h d dp : Nat) (L : List Tq) (dp' : Nat) (L' : List Tq) : Prop := ∃ A t B T', TabOf dp L A t B h ∧ dp ≤ 6 ∧ InsT t.T t.G h d (some T') ∧ dp' = dp ∧ L' = A ++ ⟨t.d, t.G, T'⟩ :: B
/-- There is no room. -/
def Flu (h d dp : Nat) (L : List Tq) : Prop := ∃ A t B, TabOf dp L A t B h ∧ dp ≤ 6 ∧ InsT t.T t.G h d none ∧ 4096 ≤ t.G ∧ 7 * t.G < 2 * (ents t.T t.G).length ∧ t.G ≠ 1 ∧ ¬ t.d < 6
/-- Room is made k times. -/
def Rmd (h d : Nat) : Nat → Nat → List Tq → Nat → List Tq → Prop
  | 0, dp, L, dp', L' => dp' = dp ∧ L' = L
  | k + 1, dp, L, dp', L' => ∃ d1 L1, Stp h d dp L d1 L1 ∧ Rmd h d k d1 L1 dp' L'
theorem Rmd.snoc {h d : Nat} : ∀ {k dp dp' dp'' : Nat} {L L' L'' : List Tq}, Rmd h d k dp L dp' L' → Stp h d dp' L' dp'' L'' → Rmd h d (k + 1) dp L dp'' L''
  | 0, _, _, _, _, _, _, r, s => by
    rw [Rmd] at r
    obtain ⟨rfl, rfl⟩ := r
    exact ⟨_, _, s, rfl, rfl⟩
  | _ + 1, _, _, _, _, _, _, r, s => by
    rw [Rmd] at r
    obtain ⟨d1, L1, h1, h2⟩ := r
    exact ⟨d1, L1, h1, h2.snoc s⟩
def RmE (h d dp : Nat) (L : List Tq) (dp' : Nat) (L' : List Tq) : Prop := ∃ k, Rmd h d k dp L dp' L'
theorem RmE.refl (h d dp : Nat) (L : List Tq) : RmE h d dp L dp L := ⟨0, rfl, rfl⟩
theorem RmE.step {h d dp dp' dp'' : Nat} {L L' L'' : List Tq} (r : RmE h d dp L dp' L') (s : Stp h d dp' L' dp'' L'') : RmE h d dp L dp'' L'' := by
  obtain ⟨k, r⟩ := r
  exact ⟨k + 1, r.snoc s⟩
/-- What Insert makes of a directory. -/
def InsD (h d dp : Nat) (L : List Tq) : Option (Nat × List Tq) → Prop
  | some (dp', L') => ∃ d1 L1, RmE h d dp L d1 L1 ∧ Fin h d d1 L1 dp' L'
  | none => ∃ d1 L1, RmE h d dp L d1 L1 ∧ Flu h d d1 L1
theorem tab_one {dp h : Nat} {L A A' B B' : List Tq} {t t' : Tq} (hdp : dp ≤ 6) (h1 : TabOf dp L A t B h) (h2 : TabOf dp L A' t' B' h) : A = A' ∧ t = t' ∧ B = B' :=
  tab_uniq (by omega) (h1.eq.symm.trans h2.eq) h1.ot.le h1.ot.mul h1.lead h2.ot.le h2.ot.mul h2.lead
theorem ins_no {T X : List Nat} {G h d : Nat} (a : InsT T G h d (some X)) (b : InsT T G h d none) : False := by
  obtain ⟨g, i, hF, hno, _⟩ := a
  exact hno (b g i hF)
theorem stp_det {h d dp d1 d2 : Nat} {L L1 L2 : List Tq} (a : Stp h d dp L d1 L1) (b : Stp h d dp L d2 L2) : d1 = d2 ∧ L1 = L2 := by
  obtain ⟨A, t, B, hT, _, hdp, ha⟩ := a
  obtain ⟨A', t', B', hT', _, _, hb⟩ := b
  obtain ⟨rfl, rfl, rfl⟩ := tab_one hdp hT hT'
  rcases ha with ⟨X0, X1, c, f0, f1, rfl, rfl⟩ | ⟨X, c, f, rfl, rfl⟩ <;> rcases hb with ⟨Y0, Y1, c', g0, g1, rfl, rfl⟩ | ⟨Y, c', g, rfl, rfl⟩
  · rw [fil_det f0 g0, fil_det f1 g1]; exact ⟨rfl, rfl⟩
  · omega
  · omega
  · rw [fil_det f g]; exact ⟨rfl, rfl⟩
theorem stp_fin {h d dp d1 d2 : Nat} {L L1 L2 : List Tq} (a : Stp h d dp L d1 L1) (b : Fin h d dp L d2 L2) : False := by
  obtain ⟨A, t, B, hT, hn, hdp, _⟩ := a
  obtain ⟨A', t', B', T', hT', _, hs, _⟩ := b
  obtain ⟨rfl, rfl, rfl⟩ := tab_one hdp hT hT'
  exact ins_no hs hn
theorem stp_flu {h d dp d1 : Nat} {L L1 : List Tq} (a : Stp h d dp L d1 L1) (b : Flu h d dp L) : False := by
  obtain ⟨A, t, B, hT, _, hdp, hc⟩ := a
  obtain ⟨A', t', B', hT', _, _, h1, h2, h3, h4⟩ := b
  obtain ⟨rfl, rfl, rfl⟩ := tab_one hdp hT hT'
  rcases hc with ⟨_, _, c, _⟩ | ⟨_, c, _⟩ <;> omega
theorem fin_flu {h d dp d1 : Nat} {L L1 : List Tq} (a : Fin h d dp L d1 L1) (b : Flu h d dp L) : False := by
  obtain ⟨A, t, B, T', hT, hdp, hs, _⟩ := a
  obtain ⟨A', t', B', hT', _, hn, _⟩ := b
  obtain ⟨rfl, rfl, rfl⟩ := tab_one hdp hT hT'
  exact ins_no hs hn
theorem fin_det {h d dp d1 d2 : Nat} {L L1 L2 : List Tq} (a : Fin h d dp L d1 L1) (b : Fin h d dp L d2 L2) : d1 = d2 ∧ L1 = L2 := by
  obtain ⟨A, t, B, T1, hT, hdp, hs, rfl, rfl⟩ := a
  obtain ⟨A', t', B', T2, hT', _, hs', rfl, rfl⟩ := b
  obtain ⟨rfl, rfl, rfl⟩ := tab_one hdp hT hT'
  rw [insT_det hs hs']
  exact ⟨rfl, rfl⟩
/-- The end of a way. -/
def EndD (h d dp : Nat) (L : List Tq) : Option (Nat × List Tq) → Prop
  | some (dp', L') => Fin h d dp L dp' L'
  | none => Flu h d dp L
theorem end_det {h d dp : Nat} {L : List Tq} {O O' : Option (Nat × List Tq)} (a : EndD h d dp L O) (b : EndD h d dp L O') : O = O' := by
  cases O with
  | none =>
    cases O' with
    | none => rfl
    | some y => exact (fin_flu b a).elim
  | some x =>
    cases O' with
    | none => exact (fin_flu a b).elim
    | some y =>
      obtain ⟨e1, e2⟩ := fin_det a b
      obtain ⟨x1, x2⟩ := x
      obtain ⟨y1, y2⟩ := y
      simp only at e1 e2
      rw [e1, e2]
theorem stp_end {h d dp d1 : Nat} {L L1 : List Tq} {O : Option (Nat × List Tq)} (a : Stp h d dp L d1 L1) (b : EndD h d dp L O) : False := by
  cases O with
  | none => exact stp_flu a b
  | some y => exact stp_fin a b
theorem way_det {h d : Nat} : ∀ {k k' dp d1 d2 : Nat} {L L1 L2 : List Tq} {O O' : Option (Nat × List Tq)}, Rmd h d k dp L d1 L1 → EndD h d d1 L1 O → Rmd h d k' dp L d2 L2 → EndD h d d2 L2 O' → O = O'
  | 0, 0, _, _, _, _, _, _, _, _, r, e, r', e' => by
    rw [Rmd] at r r'
    obtain ⟨rfl, rfl⟩ := r
    obtain ⟨rfl, rfl⟩ := r'
    exact end_det e e'
  | 0, _ + 1, _, _, _, _, _, _, _, _, r, e, r', _ => by
    obtain ⟨_, _, s, _⟩ := r'
    rw [Rmd] at r
    obtain ⟨rfl, rfl⟩ := r
    exact (stp_end s e).elim
  | _ + 1, 0, _, _, _, _, _, _, _, _, r, _, r', e' => by
    obtain ⟨_, _, s, _⟩ := r
    rw [Rmd] at r'
    obtain ⟨rfl, rfl⟩ := r'
    exact (stp_end s e').elim
  | _ + 1, _ + 1, _, _, _, _, _, _, _, _, r, e, r', e' => by
    obtain ⟨a1, M1, s, r⟩ := r
    obtain ⟨a2, M2, s', r'⟩ := r'
    obtain ⟨rfl, rfl⟩ := stp_det s s'
    exact way_det r e r' e'
theorem insD_det {h d dp : Nat} {L : List Tq} {O O' : Option (Nat × List Tq)} (a : InsD h d dp L O) (b : InsD h d dp L O') : O = O' := by
  have key : ∀ {O : Option (Nat × List Tq)}, InsD h d dp L O → ∃ k d1 L1, Rmd h d k dp L d1 L1 ∧ EndD h d d1 L1 O := by
    intro O hO
    cases O with
    | none => obtain ⟨d1, L1, ⟨k, r⟩, e⟩ := hO; exact ⟨k, d1, L1, r, e⟩
    | some y => obtain ⟨d1, L1, ⟨k, r⟩, e⟩ := hO; exact ⟨k, d1, L1, r, e⟩
  obtain ⟨k, d1, L1, r, e⟩ := key a
  obtain ⟨k', d2, L2, r', e'⟩ := key b
  exact way_det r e r' e'
end Go.Proofs.YtkfagfdefkaenaaDoor.Rf
