/-
  DRm, DStp: joined by program; no statement is proved here.
-/
import Derived.Test.YtkfagfdefkaenaaDoorZL
/-
  The table of a hash is made roomier; no statement is proved here.
-/
namespace Go.Proofs.YtkfagfdefkaenaaDoor
open Go.RowKit Go.Shelf
open Pr (Gp GpI sq pl)
attribute [local go_sem] Oper.semAt_some run_store_func

def RmPost (w : World) (zd lo dp n bt bs : Nat) (A : List Tq) (t : Tq) (B : List Tq) (e : Ending) (w' : World) : Prop :=
  (e = .returned (.bool false) ∧ Ext [] w w' ∧ 4096 ≤ t.G ∧ 7 * t.G < 2 * (ents t.T t.G).length) ∨
  (e = .returned (.bool true) ∧ Ext [zd, bt] w w' ∧
    ((∃ X0 X1 bt' ct' bs' cs', t.d < 6 ∧ Hol X0 t.G (hf t.d 0 (ents t.T t.G)) ∧ Hol X1 t.G (hf t.d 1 (ents t.T t.G)) ∧ Dx w' zd lo (max dp (t.d + 1)) (A.length + B.length + 2) bt' ct' bs' cs' (A ++ ⟨t.d + 1, t.G, X0⟩ :: ⟨t.d + 1, t.G, X1⟩ :: B)) ∨
     (∃ X G' ct' cs', Hol X G' (ents t.T t.G) ∧ (ents t.T t.G).length < 7 * G' ∧ Dx w' zd lo dp n bt ct' bs cs' (A ++ ⟨t.d, G', X⟩ :: B))))
theorem gp_twice {G : Nat} (hG : Gp G) (h : G < 4096) : Gp (2 * G) := by
  obtain ⟨k, hk, rfl⟩ := hG
  refine ⟨k + 1, ?_, by rw [Nat.pow_succ, Nat.mul_comm]⟩
  rcases Nat.lt_or_ge k 12 with q | q
  · omega
  · have : (2 : Nat) ^ 12 ≤ 2 ^ k := Nat.pow_le_pow_right (by omega) q
    have h12 : (2 : Nat) ^ 12 = 4096 := rfl
    omega
set_option maxRecDepth 100000 in
set_option maxHeartbeats 4000000 in
theorem room_any (zd lo dp n bt ct bs cs h : Nat) (A : List Tq) (t : Tq) (B : List Tq) (hD : Dq dp (A ++ t :: B)) (hh : h < 18446744073709551616) (hTo : TabOf dp (A ++ t :: B) A t B h) (w : World) (hx : Dx w zd lo dp n bt ct bs cs (A ++ t :: B)) (hlo : lo ≤ w.heap.size) (hTb : Tb w) :
    Calls Tryd.prog 43 #[.pointer (some ⟨zd, 0, none⟩), .int .u64 (h : Nat)] w (RmPost w zd lo dp n bt bs A t B) := by
  have hn := hx.len
  have hn64 := hD.len
  rw [hn] at hn64
  rw [List.length_append, List.length_cons] at hn
  have hsd := hTo.ot.sd
  have hdp := hD.le
  have htd := hTo.ot.le
  obtain ⟨i, hi⟩ : ∃ i, A.length = i := ⟨_, rfl⟩
  have p0 : w.cell? ⟨zd, 0, none⟩ = some (.int .i64 (dp : Nat)) := by rw [cell_of_row _ _ _ _ _ _ hx.box]; rfl
  have p1 : w.cell? ⟨zd, 1, none⟩ = some (.slice (some ⟨bt, 0, none⟩) n ct) := by rw [cell_of_row _ _ _ _ _ _ hx.box]; rfl
  have p2 : w.cell? ⟨zd, 2, none⟩ = some (.slice (some ⟨bs, 0, none⟩) (2 ^ dp) cs) := by rw [cell_of_row _ _ _ _ _ _ hx.box]; rfl
  have KT := tabOf_any dp bt n ct bs 0 cs h A.length (slo dp (A ++ t :: B) 0) hdp hh w hx.ns hTo.slot
  unfold dv at KT
  rw [hi] at KT
  have hin : (i : Int) < n := by omega
  have HX := hid hx
  have HD := hid hD
  have HTb := hid hTb
  have HTo := hid hTo
  have HSd := hid hsd
  obtain ⟨m, hm⟩ : ∃ m, 2 ^ dp = m := ⟨_, rfl⟩
  rw [hm] at p2 KT
  clear hx hD hTb hTo hsd
  go_enter Tryd.func43, Tryd.ntmps43
  go_wp2_with (go_at_call 37; refine KT.mono ?_; clear KT p0 p2; rintro _ w1 ⟨rfl, hE1⟩; have p1' := hE1.cell p1 (by simp); obtain ⟨g, c, e1, e2, hTw⟩ := (HX.out.tc.1.keep0 hE1).cells (n := i) (t := t) (by rw [← hi]; simp); have HTw := hid hTw; have HE1 := hid hE1; clear hE1 hTw p1)
  refine met (dgroups_any g c t.G t.T w1 HSd.out.shp HTw.out) ?_
  have KL := len_true (some ⟨g, 0, none⟩) c t.T t.G HSd.out w1 HTw.out.wd
  obtain ⟨en, hen⟩ : ∃ en, t.T.getD 1 0 = en := ⟨_, rfl⟩
  have hel := sd_len HSd.out
  have h7 := sd_len7 HSd.out
  rw [hen] at hel KL
  rw [hel] at h7
  have hG := HSd.out.shp.gp.le
  have hG0 := HSd.out.shp.gp.pos
  go_wp2_with fail
  refine KL.mono ?_
  clear KL
  rintro _ w2 ⟨rfl, hE2⟩
  have f1 := hE2.cell e1 (by simp)
  have f2 := hE2.cell e2 (by simp)
  have hE12 := HE1.out.trans hE2
  have HE12 := hid hE12
  have HTw2 := hid (HTw.out.keep0 hE2)
  have HX2 := hid (show Dx w2 zd lo dp n bt ct bs cs (A ++ t :: B) from ⟨hE12.keep HX.out.box (by simp), HX.out.tc.keep0 hE12, HX.out.ns.keep hE12 (by simp), HX.out.cap, HX.out.len, HX.out.lot, HX.out.los, HX.out.ne⟩)
  have HTb2 := hid (HTb.out.keep0 hE12)
  have Hel := hid hel
  clear hE12 hE2 e1 e2 p1' hen hel hm
  have KG := fun (M : Nat) (hM : Gp M) u (hu : Ext [] w2 u) => tgrow_any (some ⟨g, 0, none⟩) c t.T t.G M HSd.out hM u (HTw2.out.keep0 hu).wd (HTb2.out.keep0 hu)
  have fin : ∀ (M : Nat) (X : List Nat) (g' c' : Nat) (u : World), Ext [] w2 u → Hol X M (ents t.T t.G) → en < 7 * M → Tw u g' X → RmPost w zd lo dp n bt bs A t B (.returned (.bool true)) (u.setCell ⟨bt, i * 2 + 1, none⟩ (.slice (some ⟨g', 0, none⟩) (3 + 17 * M) c')) := by
    intro M X g' c' u hu hH hlt hT
    have hst := Ext.setCell [bt] u ⟨bt, i * 2 + 1, none⟩ (.slice (some ⟨g', 0, none⟩) (3 + 17 * M) c') (by simp)
    have hx2 := HX2.out
    have hzbt : zd ≠ bt := by
      rintro rfl
      obtain ⟨cs', e, _⟩ := hx2.tc.1
      rw [hx2.box] at e; cases e
    refine .inr ⟨rfl, ((HE12.out.trans hu).mono (by simp)).trans (hst.mono (by simp)), .inr ⟨X, M, ct, cs, hH, by rw [Hel.out]; exact hlt, hst.keep (hu.keep hx2.box (by simp)) (by simpa using hzbt), ?_, ?_, hx2.cap, ?_, hx2.lot, hx2.los, hx2.ne⟩⟩
    · have := (hx2.tc.keep0 hu).set (t' := ⟨t.d, M, X⟩) rfl (g := g') (c := c') hT
      rw [hi] at this
      exact this
    · rw [slo_rep dp (t := t) (t' := ⟨t.d, M, X⟩) rfl 0]
      exact (hx2.ns.keep hu (by simp)).keep hst (by simpa using fun e => hx2.ne e.symm)
    · have := hx2.len
      rw [List.length_append, List.length_cons] at this ⊢
      exact this
  by_cases h1 : 2 * en ≤ 7 * t.G
  · have h1' : (2 : Int) * (en : Int) ≤ 7 * (t.G : Int) := by omega
    have K1 := KG t.G HSd.out.shp.gp w2 (Ext.refl _ _)
    clear KG
    go_wp2_with fail
    with_reducible refine K1.mono ?_
    clear K1
    rintro _ w3 ⟨hE3, (⟨X, g3, c3, hH, rfl, hT3, hg3⟩ | ⟨hbad, rfl⟩)⟩
    · have f3 := hE3.cell f2 (by simp)
      have fr : w3.frozen? ⟨bt, i * 2 + 1, none⟩ = false := (HX2.out.tc.keep0 hE3).1.frozen _
      have HF := hid (fin t.G X g3 c3 w3 hE3 hH (by omega) hT3)
      clear hE3 hH hT3 fin f1 f2
      go_wp2_with fail
      go_ret
      exact HF.out
    · have := sd_len HSd.out
      have := Hel.out
      (try have := H2.out)
      omega
  · have h1' : ¬ ((2 : Int) * (en : Int) ≤ 7 * (t.G : Int)) := by omega
    by_cases h2 : t.G = 1
    · have h2' : ((t.G : Int) == 1) = true := by simp [h2]
      have K1 := KG 2 gp2 w2 (Ext.refl _ _)
      have H2 := hid h2
      clear h2
      simp only [show ((2 : Nat) : Int) = 2 from rfl] at K1
      clear KG
      go_wp2_with fail
      with_reducible refine K1.mono ?_
      clear K1
      rintro _ w3 ⟨hE3, (⟨X, g3, c3, hH, rfl, hT3, hg3⟩ | ⟨hbad, rfl⟩)⟩
      · have f3 := hE3.cell f2 (by simp)
        have fr : w3.frozen? ⟨bt, i * 2 + 1, none⟩ = false := (HX2.out.tc.keep0 hE3).1.frozen _
        have HF := hid (fin 2 X g3 c3 w3 hE3 hH (by have := H2.out; omega) hT3)
        clear hE3 hH hT3 fin f1 f2
        go_wp2_with fail
        go_ret
        exact HF.out
      · have := sd_len HSd.out
        have := Hel.out
        (try have := H2.out)
        omega
    · have h2' : ((t.G : Int) == 1) = false := by simp; omega
      by_cases h3 : t.d < 6
      · have h3' : (t.d : Int) < 6 := by omega
        have K1 := dsplit_any zd lo dp n bt ct bs cs A t B HD.out h3 w2 HX2.out (Nat.le_trans hlo HE12.out.size) HTb2.out
        rw [hi] at K1
        clear KG fin
        go_wp2_with fail
        with_reducible refine K1.mono ?_
        clear K1
        rintro _ w3 ⟨⟨v, rfl⟩, X0, X1, bt', ct', bs', cs', hH0, hH1, hDx, hE3⟩
        have HF : Hid (RmPost w zd lo dp n bt bs A t B (.returned (.bool true)) w3) := .inr ⟨rfl, (HE12.out.mono (by simp)).trans hE3, .inl ⟨X0, X1, bt', ct', bs', cs', h3, hH0, hH1, hDx⟩⟩
        clear hH0 hH1 hDx hE3
        go_wp2_with fail
        go_ret
        exact HF.out
      · have h3' : ¬ ((t.d : Int) < 6) := by omega
        by_cases h4 : t.G < 4096
        · have h4' : (t.G : Int) < 4096 := by omega
          have K1 := KG (2 * t.G) (gp_twice HSd.out.shp.gp h4) w2 (Ext.refl _ _)
          simp only [show ((2 * t.G : Nat) : Int) = 2 * (t.G : Int) from by push_cast; rfl] at K1
          clear KG
          go_wp2_with fail
          with_reducible refine K1.mono ?_
          clear K1
          rintro _ w3 ⟨hE3, (⟨X, g3, c3, hH, rfl, hT3, hg3⟩ | ⟨hbad, rfl⟩)⟩
          · have f3 := hE3.cell f2 (by simp)
            have fr : w3.frozen? ⟨bt, i * 2 + 1, none⟩ = false := (HX2.out.tc.keep0 hE3).1.frozen _
            have HF := hid (fin (2 * t.G) X g3 c3 w3 hE3 hH (by omega) hT3)
            clear hE3 hH hT3 fin f1 f2
            go_wp2_with fail
            go_ret
            exact HF.out
          · have := sd_len HSd.out
            have := Hel.out
            (try have := H2.out)
            omega
        · have h4' : ¬ ((t.G : Int) < 4096) := by omega
          have HF : Hid (RmPost w zd lo dp n bt bs A t B (.returned (.bool false)) w2) := .inl ⟨rfl, HE12.out, by omega, by rw [Hel.out]; omega⟩
          clear KG fin
          go_wp2_with fail
          go_ret
          exact HF.out
end Go.Proofs.YtkfagfdefkaenaaDoor

/-
  The table of a hash behind a step of growth, in plain words; no statement is proved here.
-/
namespace Go.Proofs.YtkfagfdefkaenaaDoor
open Go.RowKit Go.Shelf
open Pr (Gp GpI sq pl)

/-- A hash has one table. -/
theorem tab_uniq {dp h : Nat} {A B A' B' : List Tq} {t t' : Tq} (hdp : dp ≤ 64) (he : A ++ t :: B = A' ++ t' :: B') (hl : t.d ≤ dp) (hm : pre dp A % wdt dp t = 0) (hld : ld h t.d = pre dp A / wdt dp t) (hl' : t'.d ≤ dp) (hm' : pre dp A' % wdt dp t' = 0) (hld' : ld h t'.d = pre dp A' / wdt dp t') : A = A' ∧ t = t' ∧ B = B' := by
  have h1 := in_wdt (i := ld h dp) (wdt_pos dp t) hm (by rw [← hld]; exact ld_dp hl hdp)
  have h2 := in_wdt (i := ld h dp) (wdt_pos dp t') hm' (by rw [← hld']; exact ld_dp hl' hdp)
  rcases Nat.lt_trichotomy A.length A'.length with q | q | q
  · have hA : A' = A ++ (A'.drop A.length) := by
      have := congrArg (List.take A.length) he
      rw [List.take_left' rfl, List.take_append_of_le_length (by omega)] at this
      have e := List.take_append_drop A.length A'
      rw [← this] at e
      exact e.symm
    obtain ⟨C, hC⟩ : ∃ C, A'.drop A.length = C := ⟨_, rfl⟩
    rw [hC] at hA
    have he2 := he
    rw [hA, List.append_assoc] at he2
    have he3 := List.append_cancel_left he2
    cases C with
    | nil => rw [hA, List.append_nil] at q; omega
    | cons u C =>
      rw [List.cons_append] at he3
      cases he3
      have : pre dp A' = pre dp A + (wdt dp t + pre dp C) := by rw [hA, pre_app, pre]
      omega
  · obtain ⟨e1, e2⟩ := List.append_inj he q
    cases e2
    exact ⟨e1, rfl, rfl⟩
  · have hA : A = A' ++ (A.drop A'.length) := by
      have := congrArg (List.take A'.length) he
      rw [List.take_append_of_le_length (by omega), List.take_left' rfl] at this
      have e := List.take_append_drop A'.length A
      rw [this] at e
      exact e.symm
    obtain ⟨C, hC⟩ : ∃ C, A.drop A'.length = C := ⟨_, rfl⟩
    rw [hC] at hA
    have he2 := he
    rw [hA, List.append_assoc] at he2
    have he3 := List.append_cancel_left he2
    cases C with
    | nil => rw [hA, List.append_nil] at q; omega
    | cons u C =>
      rw [List.cons_append] at he3
      cases he3
      have : pre dp A = pre dp A' + (wdt dp t' + pre dp C) := by rw [hA, pre_app, pre]
      omega
/-- The halves hold what the table held. -/
theorem hf_perm (d : Nat) : ∀ E : List (Nat × Nat), (hf d 0 E ++ hf d 1 E).Perm E
  | [] => by simp [hf]
  | e :: E => by
    have ih := hf_perm d E
    have h2 : ld e.1 (d + 1) % 2 = 0 ∨ ld e.1 (d + 1) % 2 = 1 := by omega
    rcases h2 with q | q
    · have e0 : hf d 0 (e :: E) = e :: hf d 0 E := by unfold hf; rw [List.filter_cons_of_pos (by simp [q])]
      have e1 : hf d 1 (e :: E) = hf d 1 E := by unfold hf; rw [List.filter_cons_of_neg (by simp [q])]
      rw [e0, e1, List.cons_append]
      exact ih.cons e
    · have e0 : hf d 0 (e :: E) = hf d 0 E := by unfold hf; rw [List.filter_cons_of_neg (by simp [q])]
      have e1 : hf d 1 (e :: E) = e :: hf d 1 E := by unfold hf; rw [List.filter_cons_of_pos (by simp [q])]
      rw [e0, e1]
      exact List.perm_middle.trans (ih.cons e)
theorem en_split {A B : List Tq} {t : Tq} {X0 X1 : List Nat} (h0 : Hol X0 t.G (hf t.d 0 (ents t.T t.G))) (h1 : Hol X1 t.G (hf t.d 1 (ents t.T t.G))) : (En (A ++ ⟨t.d + 1, t.G, X0⟩ :: ⟨t.d + 1, t.G, X1⟩ :: B)).Perm (En (A ++ t :: B)) := by
  rw [En_app, En_app, En_cons, En_cons, En_cons]
  refine List.Perm.append_left _ ?_
  rw [← List.append_assoc]
  refine List.Perm.append_right _ ?_
  exact ((hol_perm h0).append (hol_perm h1)).trans (hf_perm t.d _)
theorem en_grow {A B : List Tq} {t : Tq} {X : List Nat} {G' d' : Nat} {E : List (Nat × Nat)} (hH : (ents X G').Perm E) (hE : E.Perm (ents t.T t.G)) : (En (A ++ ⟨d', G', X⟩ :: B)).Perm (En (A ++ t :: B)) := by
  rw [En_app, En_app, En_cons, En_cons]
  exact List.Perm.append_left _ (List.Perm.append_right _ (hH.trans hE))
/-- How much is left to be done for a hash. -/
def mu (t : Tq) : Nat := 2 * (6 - t.d) + if t.T.getD 2 0 = 0 then 1 else 0
theorem mu_split {dp h : Nat} {A B : List Tq} {t : Tq} {X0 X1 : List Nat} (hD : Dq dp (A ++ t :: B)) (hT : TabOf dp (A ++ t :: B) A t B h) (h6 : t.d < 6) (hD' : Dq (max dp (t.d + 1)) (A ++ ⟨t.d + 1, t.G, X0⟩ :: ⟨t.d + 1, t.G, X1⟩ :: B)) (hz : t.T.getD 2 0 = 0)
    {A' B' : List Tq} {t' : Tq} (hT' : TabOf (max dp (t.d + 1)) (A ++ ⟨t.d + 1, t.G, X0⟩ :: ⟨t.d + 1, t.G, X1⟩ :: B) A' t' B' h) : mu t' < mu t := by
  have hle := hT.ot.le
  have hdp := hD.le
  obtain ⟨dm, hdm⟩ : ∃ dm, max dp (t.d + 1) = dm := ⟨_, rfl⟩
  rw [hdm] at hD' hT'
  have hdm6 := hD'.le
  have hok := hD'.ok
  rw [ok_app, Ok, Ok, Nat.zero_add] at hok
  obtain ⟨_, o0, o1, _⟩ := hok
  have hpre : pre dm A / wdt dm t = ld h t.d := by
    by_cases q : t.d < dp
    · rw [show dm = dp by omega]; exact hT.lead.symm
    · obtain rfl : dp = t.d := by omega
      have hA := hD.ok
      rw [ok_app] at hA
      rw [show dm = t.d + 1 by omega, (ok_up A 0 hA.1).2]
      have hw : wdt (t.d + 1) t = 2 * wdt t.d t := by unfold wdt; simp
      rw [hw, Nat.mul_div_mul_left _ _ (by omega)]
      exact hT.lead.symm
  have hw : wdt dm t = 2 * wdt dm ⟨t.d + 1, t.G, X0⟩ := by
    unfold wdt
    show 2 ^ (dm - t.d) = 2 * 2 ^ (dm - (t.d + 1))
    rw [show dm - t.d = (dm - (t.d + 1)) + 1 by omega, Nat.pow_succ, Nat.mul_comm]
  have hw1 : wdt dm ⟨t.d + 1, t.G, X1⟩ = wdt dm ⟨t.d + 1, t.G, X0⟩ := rfl
  have hp := wdt_pos dm ⟨t.d + 1, t.G, X0⟩
  have hn := ld_next (h := h) (k := t.d) (by omega)
  obtain ⟨a, ha⟩ : ∃ a, pre dm A / wdt dm ⟨t.d + 1, t.G, X0⟩ = a := ⟨_, rfl⟩
  have hq : pre dm A = wdt dm ⟨t.d + 1, t.G, X0⟩ * a := by
    have := Nat.div_add_mod (pre dm A) (wdt dm ⟨t.d + 1, t.G, X0⟩)
    rw [o0.mul, ha] at this; exact this.symm
  have ho1 := o1.mul
  rw [hw1] at ho1
  have hev : a % 2 = 0 := by
    have h2 : pre dm A % wdt dm t = 0 := by
      by_cases q : t.d < dp
      · rw [show dm = dp by omega]; exact hT.ot.mul
      · obtain rfl : dp = t.d := by omega
        have hA := hD.ok
        rw [ok_app] at hA
        rw [show dm = t.d + 1 by omega, (ok_up A 0 hA.1).2]
        have hw : wdt (t.d + 1) t = 2 * wdt t.d t := by unfold wdt; simp
        rw [hw, Nat.mul_mod_mul_left, hT.ot.mul]
    rw [hw, hq, Nat.mul_comm 2, Nat.mul_mod_mul_left] at h2
    rcases Nat.mul_eq_zero.1 h2 with q | q
    · omega
    · exact q
  have ha2 : a / 2 = ld h t.d := by
    rw [← hpre, hw, hq, Nat.mul_comm 2, Nat.mul_div_mul_left _ _ hp]
  have hd' : t'.d = t.d + 1 := by
    rcases (show ld h (t.d + 1) % 2 = 0 ∨ ld h (t.d + 1) % 2 = 1 by omega) with q | q
    · obtain ⟨_, e, _⟩ := tab_uniq (t := ⟨t.d + 1, t.G, X0⟩) (h := h) (by omega) hT'.eq o0.le o0.mul (by show ld h (t.d + 1) = _; rw [ha]; omega) hT'.ot.le hT'.ot.mul hT'.lead
      rw [← e]
    · have hpa : pre dm (A ++ [⟨t.d + 1, t.G, X0⟩]) = pre dm A + wdt dm ⟨t.d + 1, t.G, X0⟩ := by rw [pre_app, pre, pre, Nat.add_zero]
      obtain ⟨_, e, _⟩ := tab_uniq (A := A ++ [⟨t.d + 1, t.G, X0⟩]) (t := ⟨t.d + 1, t.G, X1⟩) (B := B) (h := h) (by omega) (by rw [List.append_assoc]; exact hT'.eq) o1.le (by rw [hpa]; exact o1.mul) (by show ld h (t.d + 1) = _; rw [hpa, hw1, hq, ← Nat.mul_succ, Nat.mul_div_cancel_left _ hp]; omega) hT'.ot.le hT'.ot.mul hT'.lead
      rw [← e]
  unfold mu
  rw [hd', if_pos hz]
  split <;> omega
theorem mu_grow {dp h : Nat} {A B : List Tq} {t : Tq} {X : List Nat} {G' : Nat} {E : List (Nat × Nat)} (hT : TabOf dp (A ++ t :: B) A t B h) (hH : Hol X G' E) (hlt : E.length < 7 * G') (hz : t.T.getD 2 0 = 0) (hdp : dp ≤ 6)
    {A' B' : List Tq} {t' : Tq} (hT' : TabOf dp (A ++ ⟨t.d, G', X⟩ :: B) A' t' B' h) : mu t' < mu t := by
  have hw : wdt dp ⟨t.d, G', X⟩ = wdt dp t := rfl
  obtain ⟨_, e, _⟩ := tab_uniq (t := ⟨t.d, G', X⟩) (h := h) (by omega) hT'.eq hT.ot.le (by rw [hw]; exact hT.ot.mul) (by rw [hw]; exact hT.lead) hT'.ot.le hT'.ot.mul hT'.lead
  have hn := hH.nd
  unfold mu
  rw [← e, if_pos hz]
  show 2 * (6 - t.d) + (if X.getD 2 0 = 0 then 1 else 0) < _
  rw [if_neg (by omega)]
  omega
theorem wp_loop_down {P : Program} {C : Code} {Q : Exit → Act → World → Prop} {a : Act} {w : World} (I : Nat → Act → World → Prop) (r : Nat) (h0 : I r a w) (hs : ∀ r a w, I r a w → C.wp P (Exit.then (fun a w => ∃ r', r' < r ∧ I r' a w) Q) a w) : (Code.loop C).wp P Q a w := by
  refine wp_loop_rounds (r + 1) ?_
  have key : ∀ k r, r ≤ k → ∀ a w, I r a w → Code.rounds P C Q (k + 1) a w := by
    intro k
    induction k with
    | zero => intro r hr a w h; exact Code.wp_mono (fun e a w q => by cases e <;> first | (obtain ⟨r', h1, _⟩ := q; omega) | exact q) (hs r a w h)
    | succ k ih => intro r hr a w h; exact Code.wp_mono (fun e a w q => by cases e <;> first | (obtain ⟨r', h1, h2⟩ := q; exact ih r' (by omega) _ _ h2) | exact q) (hs r a w h)
  exact key r r (Nat.le_refl _) a w h0
end Go.Proofs.YtkfagfdefkaenaaDoor
