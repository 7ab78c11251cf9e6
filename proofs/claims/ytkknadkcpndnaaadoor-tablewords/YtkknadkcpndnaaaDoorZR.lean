/-
  WAll: joined by program; no statement is proved here.
-/
import Derived.Test.YtkknadkcpndnaaaDoorZP
import Derived.Test.YtkknadkcpndnaaaDoorZQ
/-
  The walk of TableAll; no statement is proved here.
-/
namespace Go.Proofs.YtkknadkcpndnaaaDoor
open Go.RowKit Go.Shelf
open Pr (Gp GpI sq pl)
attribute [local go_sem] Oper.semAt_some run_store_func

theorem flat2_at : ∀ (E : List (Nat × Nat)) (k : Nat) (p : Nat × Nat), E[k]? = some p → (flat2 E).getD (2 * k) 0 = p.1 ∧ (flat2 E).getD (2 * k + 1) 0 = p.2
  | [], k, p, h => by simp at h
  | q :: E, 0, p, h => by
    simp at h
    subst h
    exact ⟨rfl, rfl⟩
  | q :: E, k + 1, p, h => by
    have ih := flat2_at E k p (by simpa using h)
    have e : flat2 (q :: E) = q.1 :: q.2 :: flat2 E := rfl
    rw [e, show 2 * (k + 1) = 2 * k + 1 + 1 by omega]
    exact ih
def PwPost (w : World) (n : Nat) (L : List Nat) (e : Ending) (w' : World) : Prop := ∃ va vc, e = .returned (.tuple #[.slice va n vc, .bool true]) ∧ Wd w' va L ∧ Ext [] w w'
theorem pairs_w (g c G n : Nat) (T : List Nat) (hS : Sd T G) (hn : (ents T G).length = n) (w : World) (hT : Tw w g T) (hTb : Tb w) :
    Calls Tryd.prog 15 #[.slice (some ⟨g, 0, none⟩) (3 + 17 * G) c] w (PwPost w (2 * n) (flat2 (ents T G))) :=
  (pairs_any (some ⟨g, 0, none⟩) c T G hS w hT.wd hTb).mono (by
    rintro e w' ⟨v, rfl, ho, hX⟩
    obtain ⟨va, vc, rfl, _⟩ := own_slice ho
    rw [flat2_len, hn] at ho ⊢
    exact ⟨va, vc, rfl, own_vs ho, hX⟩)
theorem ents_lt {T : List Nat} {G : Nat} (hS : Shp T G) : ∀ (k : Nat) (p : Nat × Nat), p ∈ ents T k → p.1 < 18446744073709551616 ∧ p.2 < 18446744073709551616
  | 0, p, h => by simp [ents] at h
  | k + 1, p, h => by
    rw [ents_succ] at h
    rcases List.mem_append.1 h with q | q
    · exact ents_lt hS k p q
    · rw [egr_eq] at q
      obtain ⟨i, _, rfl⟩ := List.mem_map.1 q
      exact ⟨getD_lt64 hS.lt _, getD_lt64 hS.lt _⟩
theorem gp16 : Gp 16 := ⟨4, by omega, rfl⟩
def AiPost (E : List (Nat × Nat)) (u : World) (e : Ending) (w' : World) : Prop := ∃ X g c, e = .returned (.tuple #[.slice (some ⟨g, 0, none⟩) 275 c, .int .i64 0]) ∧ Hol X 16 E ∧ Tw w' g X ∧ Ext [] u w'
theorem ains_any {X : List Nat} {E : List (Nat × Nat)} {k xh xd : Nat} (hH : Hol X 16 (E.take k)) (hp : E[k]? = some (xh, xd)) (hk : k < 112) (hxh : xh < 18446744073709551616) (hxd : xd < 18446744073709551616) (g1 cc1 : Nat) (u : World) (ht : Tw u g1 X) (hTb : Tb u) :
    Calls Tryd.prog 16 #[.slice (some ⟨g1, 0, none⟩) 275 cc1, .int .u64 (xh : Nat), .int .u64 (xd : Nat)] u (AiPost (E.take (k + 1)) u) :=
  (tinsert_any (some ⟨g1, 0, none⟩) cc1 X 16 xh xd hH.sd hxh hxd u ht.wd hTb).mono (by
    rintro e w' ⟨hX, ⟨T', g, c, hI, rfl, hTw, hg⟩ | ⟨hI, rfl⟩⟩
    · refine ⟨T', g, c, rfl, ?_, hTw, hX⟩
      have := hol_ins hH hxh hxd hI
      rwa [show E.take k ++ [(xh, xd)] = E.take (k + 1) by rw [List.take_add_one, hp]; rfl] at this
    · have := hol_full hH hI
      rw [List.length_take] at this
      omega)
theorem fndX_w (g c h n : Nat) (T : List Nat) (hS : Sd T 16) (hh : h < 18446744073709551616) (hn : (fnd T h 16).length = n) (w : World) (hT : Tw w g T) (hTb : Tb w) :
    Calls Tryd.prog 14 #[.slice (some ⟨g, 0, none⟩) 275 c, .int .u64 (h : Nat)] w (FwPost w n (fnd T h 16)) := found_w g c 16 h n T hS hh hn w hT hTb

set_option maxRecDepth 100000 in
set_option maxHeartbeats 4000000 in
theorem allWalk (G0 : Int) (a : Option Addr) (n c : Nat) (S : List Opr) (w : World) (hS : Scr w a S) (hn : S.length = n) (hnb : n ≤ 17592186044416) (hTb : Tb w) :
    Calls Tryd.prog 8 #[.int .i64 G0, .slice a n c] w (SayPost w (.bool true)) := by
  have K0 := grown_any G0 a n c S w hS hn hnb hTb
  have HTb := hid hTb
  clear hS hn hTb
  go_enter Tryd.func8, Tryd.ntmps8
  go_wp2_with fail
  refine K0.mono ?_
  clear K0
  rintro _ w1 ⟨T, G, g, c1, rfl, hSd, hTw, hgw, hX1⟩
  have HX1 := hid hX1
  have HTw := hid hTw
  have HSd := hid hSd
  have hG := hSd.shp.gp.le
  clear hX1 hTw hSd
  go_wp2_with fail
  refine (awake_any w1).mono ?_
  rintro _ w2 ⟨rfl, hX⟩
  have HX2 := hid (HX1.out.trans hX)
  have HTw2 := hid (HTw.out.keep0 hX)
  clear hX HX1 HTw
  obtain ⟨en, hen⟩ : ∃ en, (ents T G).length = en := ⟨_, rfl⟩
  have henb := ents_len T G
  rw [hen] at henb
  have K1 := pairs_w g c1 G en T HSd.out hen w2 HTw2.out (HTb.out.keep0 HX2.out)
  have HEn := hid hen
  clear hen
  go_wp2_with fail
  refine K1.mono ?_
  clear K1
  rintro _ w3 ⟨la, lc, rfl, hL, hX⟩
  have HX3 := hid (HX2.out.trans hX)
  have HTw3 := hid (HTw2.out.keep0 hX)
  have HL3 := hid hL
  clear hX HX2 HTw2 hL
  have K1 := ownT_any (some ⟨g, 0, none⟩) (3 + 17 * G) c1 T w3 HTw3.out.wd HSd.out.shp.len (by omega) (by omega)
  go_wp2_with fail
  refine K1.mono ?_
  clear K1
  rintro _ w4 ⟨g4, c4, rfl, hT4, hg4, hX⟩
  have HX4 := hid (HX3.out.trans hX)
  have HTw4 := hid (HTw3.out.keep0 hX)
  have HL4 := hid (HL3.out.keep0 hX)
  have K1 := len_true (some ⟨g4, 0, none⟩) c4 T G HSd.out w4 hT4.wd
  rw [show T.getD 1 0 = en by rw [HSd.out.cnt, ← ents_tot, HEn.out]] at K1
  clear hX HX3 HTw3 HL3 hT4 hg4
  go_wp2_with fail
  refine K1.mono ?_
  clear K1
  rintro _ w5 ⟨rfl, hX⟩
  have HX5 := hid (HX4.out.trans hX)
  have HTw5 := hid (HTw4.out.keep0 hX)
  have HL5 := hid (HL4.out.keep0 hX)
  clear hX HX4 HTw4 HL4
  have K1 := tnew_ok 16 gp16 w5
  go_wp2_with fail
  refine K1.mono ?_
  clear K1
  rintro _ w6 ⟨gX, cX, rfl, hTX, hgX, hX⟩
  have HX6 := hid (HX5.out.trans hX)
  have HTw6 := hid (HTw5.out.keep0 hX)
  have HL6 := hid (HL5.out.keep0 hX)
  have HTX6 := hid hTX
  clear hX HX5 HTw5 HL5 hTX hgX
  obtain ⟨ll, hll⟩ : ∃ ll, 2 * en = ll := ⟨_, rfl⟩
  rw [hll]
  have HLl := hid hll
  have HAt : Hid (∀ k, k < en → ∃ xh xd, (ents T G)[k]? = some (xh, xd) ∧ xh < 18446744073709551616 ∧ xd < 18446744073709551616 ∧ (flat2 (ents T G)).getD (2 * k) 0 = xh ∧ (flat2 (ents T G)).getD (2 * k + 1) 0 = xd) := fun k hk => by
    obtain ⟨p, hp⟩ : ∃ p, (ents T G)[k]? = some p := ⟨_, List.getElem?_eq_getElem (by rw [HEn.out]; exact hk)⟩
    obtain ⟨h1, h2⟩ := ents_lt HSd.out.shp G p (List.mem_of_getElem? hp)
    obtain ⟨h3, h4⟩ := flat2_at _ k p hp
    exact ⟨p.1, p.2, hp, h1, h2, h3, h4⟩
  have HCn : Hid (∀ k xh xd, (ents T G)[k]? = some (xh, xd) → 0 < (fnd T xh G).count xd) := fun k xh xd hk => by
    rw [fnd_cnt HSd.out]
    exact List.count_pos_iff.2 (List.mem_of_getElem? hk)
  have hllb : ll ≤ 16 * G := by omega
  clear hll
  by_cases hbig : en ≤ 112
  · have hbd : decide ((en : Int) ≤ 112) = true := by simp; omega
    have hbd2 : decide ((112 : Int) < (en : Int)) = false := by simp; omega
    have hH0 : Hol (newT 16) 16 ((ents T G).take 0) := hol_new gp16
    have HH0 := hid hH0
    clear hH0
    go_wp2_with fail
    go_loopw [9, 10, 11] (fun pe px q wr => ∃ (k i : Nat) (X : List Nat) (gX cX : Nat), q = .int .i64 i ∧ i = 2 * k ∧ k ≤ en ∧ pe = .int .i64 0 ∧ px = .slice (some ⟨gX, 0, none⟩) 275 cX ∧ Hol X 16 ((ents T G).take k) ∧ Tw wr gX X ∧ Ext [] w6 wr) (fun _ _ q _ => (ll - (intOf q)).toNat)
    case atStart => exact ⟨0, 0, newT 16, gX, cX, rfl, rfl, Nat.zero_le _, rfl, rfl, HH0.out, HTX6.out, Ext.refl _ _⟩
    case round =>
      obtain ⟨k, i, X, gX, cX, rfl, hik, hk, rfl, rfl, hH, hTX, hX⟩ := hrel
      clear HTX6 HH0
      have HIk := hid hik
      have HX := hid hX
      have HH := hid hH
      have HTX := hid hTX
      have hle := HLl.out
      by_cases hkn : k < en
      · have hil : (i : Int) < ll := by omega
        have hil1 : (i : Int) + 1 < ll := by omega
        obtain ⟨xh, xd, hp, hxh, hxd, h3, h4⟩ := HAt.out k hkn
        have hcp := HCn.out k xh xd hp
        have hne : flat2 (ents T G) ≠ [] := by intro e; have := flat2_len (ents T G); rw [e, HEn.out] at this; simp at this; omega
        obtain ⟨b1, o1, rfl, hc1⟩ := (HL6.out.keep0 hX).at_ hne
        have ck0 := hc1 (2 * k) (by rw [flat2_len, HEn.out]; omega)
        have ck1 := hc1 (2 * k + 1) (by rw [flat2_len, HEn.out]; omega)
        rw [h3, ← hik] at ck0
        rw [h4, ← hik] at ck1
        obtain ⟨nf, hnf⟩ : ∃ nf, (fnd T xh G).length = nf := ⟨_, rfl⟩
        have hb1 := fnd_len (T := T) (h := xh) HSd.out.shp.gp
        rw [hnf] at hb1
        have KF := found_w g c1 G xh nf T HSd.out hxh hnf wr (HTw6.out.keep0 hX) (HTb.out.keep0 (HX6.out.trans hX))
        have HP := hid hp
        have Hk0 := hid ck0
        have Hk1 := hid ck1
        have HNf := hid hnf
        clear hc1 hne h3 h4 hp hX hH hTX hnf hik hle ck1
        go_wp2_with fail
        refine KF.mono ?_
        clear KF ck0
        rintro _ u1 ⟨fa, fc, rfl, hF, hX⟩
        have ck0 := hX.cell Hk0.out (by simp)
        have ck1 := hX.cell Hk1.out (by simp)
        have HX1 := hid (HX.out.trans hX)
        have HTX1 := hid (HTX.out.keep0 hX)
        have KT := times_any fa nf fc (fnd T xh G) xd u1 hF HNf.out (by omega)
        obtain ⟨t, ht⟩ : ∃ t, (fnd T xh G).count xd = t := ⟨_, rfl⟩
        rw [ht] at KT hcp
        have ht0 : ((t : Int) == 0) = false := by simp; omega
        have Hk0 := hid ck0
        have Hk1 := hid ck1
        clear hX HX HTX hF ht hcp
        go_wp2_with fail
        refine met KT ?_
        clear KT ck0 ck1
        obtain ⟨j, hj⟩ : ∃ j, i + 1 = j := ⟨_, rfl⟩
        have hji : (i : Int) + 1 = (j : Int) := by omega
        have hjl : (j : Int) < ll := by omega
        have hj0 : (0 : Int) ≤ (j : Int) := by omega
        have hwr : IntKind.i64.wrap ((i : Int) + 1) = (j : Int) := by rw [hji, IntKind.wrap_i64]; omega
        have hs1 : (u1.drew).cell? ⟨b1, o1 + i, none⟩ = some (.int .u64 (xh : Nat)) := Hk0.out
        have hs2 : (u1.drew).cell? ⟨b1, o1 + j, none⟩ = some (.int .u64 (xd : Nat)) := by rw [← hj]; exact Hk1.out
        clear hil1 hj hji
        have hxw := Ext.drew [] u1
        have KO := fun u (hu : Ext [] u1 u) => ownT_any (some ⟨gX, 0, none⟩) 275 cX X u (HTX1.out.keep0 hu).wd HH.out.sd.shp.len (by omega) (by omega)
        have KINS := fun u g1 cc1 (ht : Tw u g1 X) (hu : Ext [] u1 u) => ains_any HH.out HP.out (by omega) hxh hxd g1 cc1 u ht (HTb.out.keep0 ((HX6.out.trans HX1.out).trans hu))
        go_wp2_with fail
        go_region_held3 (fun w' => w'.cell? ⟨b1, o1 + i, none⟩ = some (.int .u64 (xh : Nat)) ∧ w'.cell? ⟨b1, o1 + j, none⟩ = some (.int .u64 (xd : Nat)))
          (first | exact ⟨(hX1.trans hX2).cell hs1 (by simp), (hX1.trans hX2).cell hs2 (by simp)⟩ | exact ⟨hX1.cell hs1 (by simp), hX1.cell hs2 (by simp)⟩ | go_keep)
          (first | (go_at_call 12; refine (KO _ hxw).mono ?_; rintro e v1 ⟨g1, cc1, rfl, hTw1, hg1, hX1⟩) | (go_at_call 16; refine (KINS v1 g1 cc1 hTw1 (hxw.trans hX1)).mono ?_; rintro e v2 ⟨X', g', c', rfl, hH', hTX', hX2⟩) | fail)
        have HF : Hid (Hol X' 16 ((ents T G).take (k + 1)) ∧ Tw v2 g' X' ∧ Ext [] w6 v2) := ⟨hH', hTX', (HX1.out.trans hxw).trans (hX1.trans hX2)⟩
        clear hs1 hs2 hxw hX1 hX2 hTw1 hg1 hH' hTX' KO KINS hjl hj0 hwr
        go_wp2_with fail
        go_roundw
        case rel => exact ⟨k + 1, i + 2, X', g', c', by go_num, by have := HIk.out; omega, by omega, rfl, rfl, HF.out⟩
        case measure => simp [intOf]; omega
      · obtain rfl : k = en := by omega
        obtain rfl : i = ll := by omega
        have hH2 : Hol X 16 (ents T G) := by
          have := HH.out
          rwa [List.take_of_length_le (by rw [HEn.out]; exact Nat.le_refl _)] at this
        have HH := hid hH2
        clear hX hH hTX hik hle hH2
        have HX8 := hid (HX6.out.trans HX.out)
        have HL8 := hid (HL6.out.keep0 HX.out)
        have HTw8 := hid (HTw6.out.keep0 HX.out)
        clear HX6 HL6 HTw6 HCn HX
        go_wp2_with fail
        go_loopw [14] (fun q wv => ∃ (m j : Nat), q = .int .i64 j ∧ j = 2 * m ∧ m ≤ k ∧ Ext [] wr wv) (fun q _ => (i - (intOf q)).toNat)
        case atStart => exact ⟨0, 0, rfl, rfl, Nat.zero_le _, Ext.refl _ _⟩
        case round =>
          obtain ⟨m, j, rfl, hjm, hm, hX⟩ := hrel
          have HJm := hid hjm
          have HX := hid hX
          have hle := HLl.out
          by_cases hmk : m < k
          · have hjl : (j : Int) < i := by omega
            obtain ⟨xh, xd, hp, hxh, hxd, h3, h4⟩ := HAt.out m hmk
            have hne : flat2 (ents T G) ≠ [] := by intro e; have := flat2_len (ents T G); rw [e, HEn.out] at this; simp at this; omega
            obtain ⟨b1, o1, rfl, hc1⟩ := (HL8.out.keep0 hX).at_ hne
            have ck0 := hc1 (2 * m) (by rw [flat2_len, HEn.out]; omega)
            have ck1 := hc1 (2 * m + 1) (by rw [flat2_len, HEn.out]; omega)
            rw [h3, ← hjm] at ck0
            rw [h4, ← hjm] at ck1
            obtain ⟨nf, hnf⟩ : ∃ nf, (fnd T xh G).length = nf := ⟨_, rfl⟩
            have hnx : (fnd X xh 16).length = nf := by rw [HH.out.tot, ← fnd_lenE HSd.out, hnf]
            have hct : (fnd X xh 16).count xd = (fnd T xh G).count xd := by rw [HH.out.cnt, fnd_cnt HSd.out]
            have hb1 := fnd_len (T := T) (h := xh) HSd.out.shp.gp
            rw [hnf] at hb1
            have KF := found_w g c1 G xh nf T HSd.out hxh hnf wr (HTw8.out.keep0 hX) (HTb.out.keep0 (HX8.out.trans hX))
            obtain ⟨j1, hj⟩ : ∃ j1, j + 1 = j1 := ⟨_, rfl⟩
            rw [hj] at ck1
            have hji : (j : Int) + 1 = (j1 : Int) := by omega
            have hjl1 : (j1 : Int) < i := by omega
            have hj0 : (0 : Int) ≤ (j1 : Int) := by omega
            have hwr : IntKind.i64.wrap ((j : Int) + 1) = (j1 : Int) := by rw [hji, IntKind.wrap_i64]; omega
            have Hk0 := hid ck0
            have Hk1 := hid ck1
            have HNf := hid hnf
            have HNx := hid hnx
            have HCt := hid hct
            clear hc1 hne h3 h4 hp hX hnf hnx hct hjm hle ck1 hj hji
            go_wp2_with fail
            refine KF.mono ?_
            clear KF ck0
            rintro _ u1 ⟨fa, fc, rfl, hF, hX⟩
            have ck0 := hX.cell Hk0.out (by simp)
            have ck1 := hX.cell Hk1.out (by simp)
            have HX1 := hid (HX.out.trans hX)
            have HF := hid hF
            have Hk1 := hid ck1
            have KF := fndX_w gX cX xh nf X HH.out.sd hxh HNx.out u1 (HTX.out.keep0 HX1.out) (HTb.out.keep0 (HX8.out.trans HX1.out))
            clear hX HX hF ck1
            go_wp2_with fail
            refine KF.mono ?_
            clear KF ck0
            rintro _ u2 ⟨fb, fd, rfl, hF2, hX⟩
            have hs1 : (u2.drew).cell? ⟨b1, o1 + j1, none⟩ = some (.int .u64 (xd : Nat)) := hX.cell Hk1.out (by simp)
            have hFa := HF.out.keep0 hX
            have KA := fun u (hu : Ext [] u2 u) => times_any fa nf fc (fnd T xh G) xd u (hFa.keep0 hu) HNf.out (by omega)
            have KB := fun u (hu : Ext [] u2 u) => times_any fb nf fd (fnd X xh 16) xd u (hF2.keep0 hu) HNx.out (by omega)
            rw [HCt.out] at KB
            generalize (fnd T xh G).count xd = t at KA KB
            have KA := fun u (hu : Ext [] u2 u) => (KA u hu).mono (R' := SayPost u (.int .i64 (t : Nat))) (by rintro e w' ⟨rfl, rfl⟩; exact ⟨rfl, Ext.refl _ _⟩)
            have KB := fun u (hu : Ext [] u2 u) => (KB u hu).mono (R' := SayPost u (.int .i64 (t : Nat))) (by rintro e w' ⟨rfl, rfl⟩; exact ⟨rfl, Ext.refl _ _⟩)
            have HX2 := hid (HX1.out.trans hX)
            have hxw := Ext.drew [] u2
            clear hX HX1 hF2 hFa HF HCt
            go_wp2_with fail
            go_region_held3 (fun w' => w'.cell? ⟨b1, o1 + j1, none⟩ = some (.int .u64 (xd : Nat)))
              (first | exact (hX1.trans hX2).cell hs1 (by simp) | exact hX1.cell hs1 (by simp) | go_keep)
              (first | (go_at_call 30; refine (KB v1 (hxw.trans hX1)).mono ?_; rintro e v2 ⟨rfl, hX2⟩) | (go_at_call 30; refine (KA _ hxw).mono ?_; rintro e v1 ⟨rfl, hX1⟩) | fail)
            have HF := hid ((HX2.out.trans hxw).trans (hX1.trans hX2))
            clear hX1 hX2 hxw KA KB hs1 hjl1 hj0 hwr
            go_wp2_with fail
            go_roundw
            case rel => exact ⟨m + 1, j + 2, by go_num, by have := HJm.out; omega, by omega, HF.out⟩
            case measure => simp [intOf]; omega
          · obtain rfl : m = k := by omega
            obtain rfl : j = i := by omega
            clear hX hjm hle
            go_wp2
            go_ret
            exact ⟨rfl, HX8.out.trans HX.out⟩
  · have hbd : decide ((en : Int) ≤ 112) = false := by simp; omega
    have hbd2 : decide ((112 : Int) < (en : Int)) = true := by simp; omega
    go_wp2_with fail
    go_loopw [9, 10, 11] (fun pe px q wr => ∃ (k i : Nat), q = .int .i64 i ∧ i = 2 * k ∧ k ≤ en ∧ pe = .int .i64 0 ∧ px = .slice (some ⟨gX, 0, none⟩) 275 cX ∧ Ext [] w6 wr) (fun _ _ q _ => (ll - (intOf q)).toNat)
    case atStart => exact ⟨0, 0, rfl, rfl, Nat.zero_le _, rfl, rfl, Ext.refl _ _⟩
    case round =>
      obtain ⟨k, i, rfl, hik, hk, rfl, rfl, hX⟩ := hrel
      clear HTX6
      have HIk := hid hik
      have HX := hid hX
      have hle := HLl.out
      by_cases hkn : k < en
      · have hil : (i : Int) < ll := by omega
        have hil1 : (i : Int) + 1 < ll := by omega
        obtain ⟨xh, xd, hp, hxh, hxd, h3, h4⟩ := HAt.out k hkn
        have hcp := HCn.out k xh xd hp
        have hne : flat2 (ents T G) ≠ [] := by intro e; have := flat2_len (ents T G); rw [e, HEn.out] at this; simp at this; omega
        obtain ⟨b1, o1, rfl, hc1⟩ := (HL6.out.keep0 hX).at_ hne
        have ck0 := hc1 (2 * k) (by rw [flat2_len, HEn.out]; omega)
        have ck1 := hc1 (2 * k + 1) (by rw [flat2_len, HEn.out]; omega)
        rw [h3, ← hik] at ck0
        rw [h4, ← hik] at ck1
        obtain ⟨nf, hnf⟩ : ∃ nf, (fnd T xh G).length = nf := ⟨_, rfl⟩
        have hb1 := fnd_len (T := T) (h := xh) HSd.out.shp.gp
        rw [hnf] at hb1
        have KF := found_w g c1 G xh nf T HSd.out hxh hnf wr (HTw6.out.keep0 hX) (HTb.out.keep0 (HX6.out.trans hX))
        have Hk0 := hid ck0
        have Hk1 := hid ck1
        have HNf := hid hnf
        clear hc1 hne h3 h4 hp hX hnf hik hle ck1
        go_wp2_with fail
        refine KF.mono ?_
        clear KF ck0
        rintro _ u1 ⟨fa, fc, rfl, hF, hX⟩
        have ck0 := hX.cell Hk0.out (by simp)
        have ck1 := hX.cell Hk1.out (by simp)
        have HX1 := hid (HX.out.trans hX)
        have KT := times_any fa nf fc (fnd T xh G) xd u1 hF HNf.out (by omega)
        obtain ⟨t, ht⟩ : ∃ t, (fnd T xh G).count xd = t := ⟨_, rfl⟩
        rw [ht] at KT hcp
        have ht0 : ((t : Int) == 0) = false := by simp; omega
        clear hX HX hF ht hcp
        go_wp2_with fail
        refine met KT ?_
        clear KT ck0 ck1
        go_wp2_with fail
        go_roundw
        case rel => exact ⟨k + 1, i + 2, by go_num, by have := HIk.out; omega, by omega, rfl, rfl, HX1.out⟩
        case measure => simp [intOf]; omega
      · obtain rfl : k = en := by omega
        obtain rfl : i = ll := by omega
        clear hX hik hle
        go_wp2
        go_ret
        exact ⟨rfl, HX6.out.trans HX.out⟩
end Go.Proofs.YtkknadkcpndnaaaDoor
