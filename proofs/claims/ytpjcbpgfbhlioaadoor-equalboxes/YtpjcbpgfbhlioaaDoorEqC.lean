/-
  The program's equalValues, check and Equal; no statement is proved here.
-/
import Derived.Test.YtpjcbpgfbhlioaaDoorEqB
namespace Go.Proofs.YtpjcbpgfbhlioaaDoor
open Go.RowKit

set_option maxRecDepth 100000 in
set_option maxHeartbeats 8000000 in
theorem eqAt_any (ts : List Ty) (ta : Option Addr) (tn tc : Nat) (htn : ts.length = tn) (hc : tn ≤ tc) (hS : Sound ts) : ∀ (d : Nat) (w0 : World), Tab w0 ta ts → Gl w0 → EqAt ts ta tn tc d w0 := by
  intro d
  induction d with
  | zero =>
    intro w0 hT hG t a l n c a' l' n' c' w hE ht hC hn hok hC' hn' hok'
    have hkl := kinds_len hS.2.1 (t + 1) t (by omega) (by omega) (by omega)
    have hw1 := (sound_fit hS (i := t) (by omega)).1.w0
    obtain rfl : l = [] := hC
    have h0 : ([] : List Cl).length = (kinds ts t).length := hok
    simp only [List.length_nil] at h0
    omega
  | succ d ih =>
    intro w0 hT hG t a l n c a' l' n' c' w hE ht hC hn hok hC' hn' hok'
    have K := kindsOf_any ts ta tn tc htn hS t ht w (hT.keep0 hE)
    have hkl := kinds_len hS.2.1 (t + 1) t (by omega) (by omega) (by omega)
    have hkw := (sound_fit hS (i := t) (by omega)).2
    have hKL : (kinds ts t).length ≤ 16 := by omega
    clear hkl hkw
    have hl1 : n = (kinds ts t).length := by rw [← hn]; exact hok.1
    have hl2 : n' = (kinds ts t).length := by rw [← hn']; exact hok'.1
    have HT := hid (hT.keep0 hE)
    have HG := hid (hG.keep0 hE)
    have HIH := hid ih
    have HC := hid hC
    have HC' := hid hC'
    have HOk := hid hok.2
    have HOk' := hid hok'.2
    have HN : Hid (l.length = (kinds ts t).length) := hok.1
    have HN' : Hid (l'.length = (kinds ts t).length) := hok'.1
    have HV : Hid (∀ r, r = eqL (eqC ts (eqV ts d)) (kinds ts t) l l' → eqV ts (d + 1) t l l' = r) := fun r hr => by rw [hr]; rfl
    subst hl1 hl2
    clear hT hG hE ih hC hC' hok hok' hn hn'
    generalize kinds ts t = ks at *
    generalize eqV ts (d + 1) t l l' = res at *
    unfold paV
    go_enter Tryd.func28, Tryd.ntmps28
    go_wp2_with (first | (go_at_call 43; refine K.mono ?_; clear K; rintro e w2 ⟨ka, kc, rfl, hKS, hE2, _⟩; replace hKS := hid hKS; replace hE2 := hid hE2) | fail "no arm")
    go_loopw [18] (fun q wr => ∃ k : Nat, q = .int .i64 k ∧ k ≤ ks.length ∧ Hid (Ext [] w2 wr ∧ ∀ i, i < k → (eqC ts (eqV ts d) (ks.getD i 0) (cAt l i) (cAt l' i)).1 = true)) (fun q _ => (ks.length - (intOf q)).toNat)
    case atStart => exact ⟨0, rfl, Nat.zero_le _, hid ⟨Ext.refl _ _, fun i hi => by omega⟩⟩
    case round =>
      obtain ⟨k, rfl, hk, hR⟩ := hrel
      have HEr := hid (hE2.out.trans hR.out.1)
      by_cases hlt : k < ks.length
      · obtain ⟨d1, b, o, hd, rfl, hat⟩ := (HC.out.keep0 HEr.out).at_ (by rw [HN.out]; omega)
        obtain rfl : d1 = d := by omega
        obtain ⟨d2, b', o', hd', rfl, hat'⟩ := (HC'.out.keep0 HEr.out).at_ (by rw [HN'.out]; omega)
        obtain rfl : d2 = d1 := by omega
        obtain ⟨ba, bc, hcl, hbx⟩ := hat k (by rw [HN.out]; omega)
        obtain ⟨ba', bc', hcl', hbx'⟩ := hat' k (by rw [HN'.out]; omega)
        obtain ⟨kb, ko, rfl, hkcs⟩ := Is.at_ (Vs.keep0 hKS.out hR.out.1 : Is wr ka ks) (by intro e; rw [e] at hlt; simp at hlt)
        have hkk := hkcs k hlt
        have KC : Hid (∀ u, Ext [] wr u → Calls Tryd.prog 44 #[.slice ta tn tc, .int .i64 (ks.getD k 0), clV (cAt l k) ba bc, clV (cAt l' k) ba' bc'] u (SayPost u (paV (eqC ts (eqV ts d2) (ks.getD k 0) (cAt l k) (cAt l' k))))) := fun u hu =>
          eqCell_any ts ta tn tc htn hc hS d2 u (HT.out.keep0 (HEr.out.trans hu)) (HG.out.keep0 (HEr.out.trans hu)) (HIH.out u (HT.out.keep0 (HEr.out.trans hu)) (HG.out.keep0 (HEr.out.trans hu))) _ _ _ _ _ _ _
            ⟨hbx.keep0 hu, (HOk.out k (by rw [HN.out]; exact hlt)).2⟩ ⟨hbx'.keep0 hu, (HOk'.out k (by rw [HN'.out]; exact hlt)).2⟩
        have x0 := hcl.c0
        have x1 := hcl.c1
        have x2 := hcl.c2
        have x3 := hcl.c3
        have y0 := hcl'.c0
        have y1 := hcl'.c1
        have y2 := hcl'.c2
        have y3 := hcl'.c3
        have HYes : Hid ((eqC ts (eqV ts d2) (ks.getD k 0) (cAt l k) (cAt l' k)).1 = true → ∀ i, i < k + 1 → (eqC ts (eqV ts d2) (ks.getD i 0) (cAt l i) (cAt l' i)).1 = true) := fun h i hi => by
          rcases (by omega : i < k ∨ i = k) with h' | rfl
          · exact hR.out.2 i h'
          · exact h
        have HNo : Hid ((eqC ts (eqV ts d2) (ks.getD k 0) (cAt l k) (cAt l' k)).1 = false → res = (false, (eqC ts (eqV ts d2) (ks.getD k 0) (cAt l k) (cAt l' k)).2)) := fun h => HV.out _ (eqL_no ks l l' k hlt hR.out.2 h).symm
        have hkn : (k : Int) < ks.length := by omega
        unfold clV paV at KC
        clear hat hat' hcl hcl' hkcs hbx hbx' hd hd' HV HOk HOk' HIH
        generalize eqC ts (eqV ts d2) (ks.getD k 0) (cAt l k) (cAt l' k) = r at *
        generalize ks.getD k 0 = kk at *
        generalize (cAt l k).box.length = xl at *
        generalize (cAt l k).n = xn at *
        generalize (cAt l k).s = xs at *
        generalize (cAt l k).t = xt at *
        generalize (cAt l' k).box.length = yl at *
        generalize (cAt l' k).n = yn at *
        generalize (cAt l' k).s = ys at *
        generalize (cAt l' k).t = yt at *
        go_upto_region 4 with fail
        go_region_held3 (fun w' => w'.cell? ⟨b, o + k * 4, none⟩ = some (.int .u64 xn) ∧ w'.cell? ⟨b, o + k * 4 + 1, none⟩ = some (.string xs) ∧ w'.cell? ⟨b, o + k * 4 + 2, none⟩ = some (.int .i64 xt) ∧ w'.cell? ⟨b, o + k * 4 + 3, none⟩ = some (.slice ba xl bc) ∧ w'.cell? ⟨b', o' + k * 4, none⟩ = some (.int .u64 yn) ∧ w'.cell? ⟨b', o' + k * 4 + 1, none⟩ = some (.string ys) ∧ w'.cell? ⟨b', o' + k * 4 + 2, none⟩ = some (.int .i64 yt) ∧ w'.cell? ⟨b', o' + k * 4 + 3, none⟩ = some (.slice ba' yl bc'))
          (first | exact ⟨hE4.cell ((Ext.drew [] _).cell x0 (by simp)) (by simp), hE4.cell ((Ext.drew [] _).cell x1 (by simp)) (by simp), hE4.cell ((Ext.drew [] _).cell x2 (by simp)) (by simp), hE4.cell ((Ext.drew [] _).cell x3 (by simp)) (by simp), hE4.cell ((Ext.drew [] _).cell y0 (by simp)) (by simp), hE4.cell ((Ext.drew [] _).cell y1 (by simp)) (by simp), hE4.cell ((Ext.drew [] _).cell y2 (by simp)) (by simp), hE4.cell ((Ext.drew [] _).cell y3 (by simp)) (by simp)⟩ | go_keep)
          (first | (go_at_call 44; refine (KC.out _ (Ext.drew [] _)).mono ?_; rintro e w4 ⟨rfl, hE4⟩) | fail "no arm")
        have HE4 := hid ((Ext.drew [] wr).trans hE4)
        clear hE4 KC x0 x1 x2 x3 y0 y1 y2 y3
        obtain ⟨r1, r2⟩ := r
        simp only at HYes HNo
        cases r1
        · have hr := HNo.out rfl
          subst hr
          go_wp2_with fail
          go_ret2
          exact ⟨rfl, HEr.out.trans HE4.out⟩
        · go_wp2_with fail
          go_roundw
          case rel => exact ⟨k + 1, by go_num, by omega, hid ⟨hR.out.1.trans HE4.out, HYes.out rfl⟩⟩
          case measure => simp [intOf]; omega
      · have hk2 : k = ks.length := by omega
        have hr : res = (true, 0) := HV.out _ (eqL_yes ks l l' (by rw [← hk2]; exact hR.out.2)).symm
        subst hr
        clear HV
        go_wp2_with fail
        go_ret2
        exact ⟨rfl, HEr.out⟩

/-! ### check -/

/-- The error of values that are to be compared. -/
noncomputable def vkL (ts : List Ty) (d : Nat) (t : Int) : List (List Cl) → Int
  | [] => if cmpT ts t then 0 else 3
  | v :: r => if vchk ts d t v = 0 then vkL ts d t r else vchk ts d t v

/-- Values in a row. -/
def Row2 (w : World) (d g : Nat) (vs : List (Option Addr × Nat × List Cl)) : Prop := ∀ (i : Nat) (x : Option Addr × Nat × List Cl), vs[i]? = some x → w.cell? ⟨g, i, none⟩ = some (.slice x.1 x.2.2.length x.2.1) ∧ Cs d w x.1 x.2.2
theorem Row2.keep0 {w w' : World} {d g : Nat} {vs : List (Option Addr × Nat × List Cl)} (h : Row2 w d g vs) (x : Ext [] w w') : Row2 w' d g vs := fun i y hy => ⟨x.cell (h i y hy).1 (by simp), (h i y hy).2.keep0 x⟩

set_option maxRecDepth 100000 in
set_option maxHeartbeats 4000000 in
theorem check_any (ts : List Ty) (ta : Option Addr) (tn tc : Nat) (htn : ts.length = tn) (hc : tn ≤ tc) (d : Nat) (t : Int) (g : Nat) (vs : List (Option Addr × Nat × List Cl)) (w : World) (h1 : 1 ≤ vs.length) (h2 : vs.length ≤ 2) (hV : Row2 w d g vs) (hT : Tab w ta ts) (hG : Gl w) :
    Calls Tryd.prog 27 #[.slice ta tn tc, .int .i64 t, .slice (some ⟨g, 0, none⟩) vs.length vs.length] w (SayPost w (.int .i64 (vkL ts d t (vs.map fun x => x.2.2)))) := by
  have HV := hid hV
  have HT := hid hT
  have HG := hid hG
  have HX : Hid (∀ r, r = vkL ts d t (vs.map fun x => x.2.2) → vkL ts d t (vs.map fun x => x.2.2) = r) := fun r h => h.symm
  have HR : Hid (∀ k, k < vs.length → ∀ x, vs[k]? = some x → vkL ts d t ((vs.drop k).map fun x => x.2.2) = if vchk ts d t x.2.2 = 0 then vkL ts d t ((vs.drop (k + 1)).map fun x => x.2.2) else vchk ts d t x.2.2) := fun k hk x hx => by
    have : vs.drop k = x :: vs.drop (k + 1) := by
      rw [List.drop_eq_getElem_cons hk]
      rw [List.getElem?_eq_getElem hk] at hx
      cases hx; rfl
    rw [this]; rfl
  have HE : Hid (∀ k, ¬ k < vs.length → vkL ts d t ((vs.drop k).map fun x => x.2.2) = if cmpT ts t then 0 else 3) := fun k hk => by
    rw [List.drop_eq_nil_of_le (by omega)]; rfl
  have H0 : Hid (vkL ts d t (vs.map fun x => x.2.2) = vkL ts d t ((vs.drop 0).map fun x => x.2.2)) := rfl
  clear hV hT hG HX
  generalize vkL ts d t (vs.map fun x => x.2.2) = res at *
  generalize hn : vs.length = n at *
  have HN := hid hn
  clear hn
  go_enter Tryd.func27, Tryd.ntmps27
  go_wp2_with fail
  go_loopw [12] (fun q wr => ∃ k : Nat, q = .int .i64 k ∧ k ≤ n ∧ Hid (Ext [] w wr ∧ res = vkL ts d t ((vs.drop k).map fun x => x.2.2) ∧ (0 < k → bad ts t = 0))) (fun q _ => (n - (intOf q)).toNat)
  case atStart => exact ⟨0, rfl, Nat.zero_le _, hid ⟨Ext.refl _ _, H0.out, fun h => by omega⟩⟩
  case round =>
    obtain ⟨k, rfl, hk, hRel⟩ := hrel
    by_cases hlt : k < n
    · obtain ⟨x, hx⟩ : ∃ x, vs[k]? = some x := ⟨vs[k]'(by rw [HN.out]; exact hlt), List.getElem?_eq_getElem _⟩
      obtain ⟨hcell, hcs⟩ := (HV.out.keep0 hRel.out.1) k x hx
      have K := pcheck_any ts ta tn tc htn hc d t x.1 x.2.2 _ x.2.1 wr hcs rfl (HT.out.keep0 hRel.out.1) (HG.out.keep0 hRel.out.1)
      have hstep := HR.out k hlt x hx
      have hbad : Hid (vchk ts d t x.2.2 = 0 → bad ts t = 0) := fun h => (vchk_zero h).1
      have hkn : (k : Int) < n := by omega
      by_cases h0 : vchk ts d t x.2.2 = 0
      · rw [if_pos h0] at hstep
        rw [h0] at K
        have HS := hid (hRel.out.2.1.trans hstep)
        have HB := hid (hbad.out h0)
        clear hstep h0 hcs hbad hx
        generalize x.2.2.length = xl at *
        generalize x.1 = xa at *
        generalize x.2.1 = xc at *
        go_wp2_with (first | (go_at_call 41; refine K.mono ?_; clear K; rintro e w1 ⟨rfl, hE1⟩; replace hE1 := hid hE1) | fail "no arm")
        go_roundw
        case rel => exact ⟨k + 1, by go_num, by omega, hid ⟨hRel.out.1.trans hE1.out, HS.out, fun _ => HB.out⟩⟩
        case measure => simp [intOf]; omega
      · rw [if_neg h0] at hstep
        have hb : (vchk ts d t x.2.2 != 0) = true := by simpa using h0
        have HS := hid (hRel.out.2.1.trans hstep)
        clear hstep h0 hcs hbad hx
        generalize vchk ts d t x.2.2 = er at *
        generalize x.2.2.length = xl at *
        generalize x.1 = xa at *
        generalize x.2.1 = xc at *
        go_wp2_with (first | (go_at_call 41; refine K.mono ?_; clear K; rintro e w1 ⟨rfl, hE1⟩; replace hE1 := hid hE1) | fail "no arm")
        go_ret
        exact ⟨by rw [HS.out]; rfl, hRel.out.1.trans hE1.out⟩
    · have hr := hRel.out.2.1.trans (HE.out k hlt)
      have K := compared_any ta ts tn tc t wr (HT.out.keep0 hRel.out.1) htn hc (HG.out.keep0 hRel.out.1) (hRel.out.2.2 (by omega))
      have HS := hid hr
      clear hr
      cases hcm : cmpT ts t
      · rw [hcm] at K HS
        have hr2 : res = 3 := by simpa using HS.out
        have HS2 := hid hr2
        clear hcm hr2
        go_wp2_with (first | (go_at_call 42; refine K.mono ?_; clear K; rintro e w1 ⟨rfl, hE1⟩; replace hE1 := hid hE1) | fail "no arm")
        go_ret
        exact ⟨by rw [HS2.out]; rfl, hRel.out.1.trans hE1.out⟩
      · rw [hcm] at K HS
        have hr2 : res = 0 := by simpa using HS.out
        have HS2 := hid hr2
        clear hcm hr2
        go_wp2_with (first | (go_at_call 42; refine K.mono ?_; clear K; rintro e w1 ⟨rfl, hE1⟩; replace hE1 := hid hE1) | fail "no arm")
        go_ret
        exact ⟨by rw [HS2.out]; rfl, hRel.out.1.trans hE1.out⟩

/-- Two values. -/
noncomputable def vk2 (ts : List Ty) (d : Nat) (t : Int) (v w : List Cl) : Int := vkL ts d t [v, w]
noncomputable def vk1 (ts : List Ty) (d : Nat) (t : Int) (v : List Cl) : Int := vkL ts d t [v]
/-- What Equal answers. -/
noncomputable def eqR (ts : List Ty) (d : Nat) (t : Int) (v w : List Cl) : Bool × Int := if vk2 ts d t v w = 0 then eqV ts d t v w else (false, vk2 ts d t v w)

theorem vk2_zero {ts : List Ty} {d : Nat} {t : Int} {v w : List Cl} (h : vk2 ts d t v w = 0) : vchk ts d t v = 0 ∧ vchk ts d t w = 0 ∧ cmpT ts t = true := by
  unfold vk2 vkL at h
  split at h
  · rename_i h1
    unfold vkL at h
    split at h
    · rename_i h2
      unfold vkL at h
      split at h
      · exact ⟨h1, h2, by assumption⟩
      · omega
    · exact absurd h (by assumption)
  · exact absurd h (by assumption)
theorem vk1_zero {ts : List Ty} {d : Nat} {t : Int} {v : List Cl} (h : vk1 ts d t v = 0) : vchk ts d t v = 0 ∧ cmpT ts t = true := by
  unfold vk1 vkL at h
  split at h
  · rename_i h1
    unfold vkL at h
    split at h
    · exact ⟨h1, by assumption⟩
    · omega
  · exact absurd h (by assumption)

set_option maxRecDepth 100000 in
set_option maxHeartbeats 4000000 in
theorem equal_any (ts : List Ty) (ta : Option Addr) (tn tc : Nat) (htn : ts.length = tn) (hc : tn ≤ tc) (d : Nat) (t : Int) (a : Option Addr) (l : List Cl) (c : Nat) (a' : Option Addr) (l' : List Cl) (c' : Nat) (w : World) (hC : Cs d w a l) (hC' : Cs d w a' l') (hT : Tab w ta ts) (hG : Gl w) :
    Calls Tryd.prog 12 #[.slice ta tn tc, .int .i64 t, .slice a l.length c, .slice a' l'.length c'] w (SayPost w (paV (eqR ts d t l l'))) := by
  have HA : Hid (Ext [] w (w.alloc (.cells #[.slice a l.length c, .slice a' l'.length c'] 23))) := Ext.alloc _ _ _
  have hrow : Row2 (w.alloc (.cells #[.slice a l.length c, .slice a' l'.length c'] 23)) d w.heap.size [(a, c, l), (a', c', l')] := by
    intro i x hx
    have hb := heap_alloc_new w (.cells #[.slice a l.length c, .slice a' l'.length c'] 23)
    match i, hx with
    | 0, hx => cases hx; exact ⟨by rw [cell_of_row _ _ _ _ _ _ hb]; rfl, hC.keep0 HA.out⟩
    | 1, hx => cases hx; exact ⟨by rw [cell_of_row _ _ _ _ _ _ hb]; rfl, hC'.keep0 HA.out⟩
    | i + 2, hx => simp at hx
  have K1 := check_any ts ta tn tc htn hc d t w.heap.size [(a, c, l), (a', c', l')] _ (by simp) (by simp) hrow (hT.keep0 HA.out) (hG.keep0 HA.out)
  replace K1 : Calls Tryd.prog 27 #[.slice ta tn tc, .int .i64 t, .slice (some ⟨w.heap.size, 0, none⟩) 2 2] (w.alloc (.cells #[.slice a l.length c, .slice a' l'.length c'] 23)) (SayPost (w.alloc (.cells #[.slice a l.length c, .slice a' l'.length c'] 23)) (.int .i64 (vk2 ts d t l l'))) := K1
  unfold eqR
  by_cases h0 : vk2 ts d t l l' = 0
  · obtain ⟨z1, z2, _⟩ := vk2_zero h0
    obtain ⟨hb, ho⟩ := vchk_zero z1
    obtain ⟨_, ho'⟩ := vchk_zero z2
    obtain ⟨hS, q0, q1⟩ := bad_zero hb
    obtain ⟨q, rfl⟩ : ∃ q : Nat, t = q := ⟨t.toNat, by omega⟩
    have K2 : Hid (∀ u, Ext [] w u → Calls Tryd.prog 28 #[.slice ta tn tc, .int .i64 q, .slice a l.length c, .slice a' l'.length c'] u (SayPost u (paV (eqV ts d q l l')))) := fun u hu => eqAt_any ts ta tn tc htn hc hS d w hT hG q a l _ c a' l' _ c' u hu (by omega) (hC.keep0 hu) rfl ho.2 (hC'.keep0 hu) rfl ho'.2
    rw [if_pos h0]
    rw [h0] at K1
    clear h0 z1 z2 hb ho ho' hS q0 q1 hT hG hC hC' hrow
    generalize eqV ts d q l l' = r at *
    obtain ⟨r1, r2⟩ := r
    unfold paV at K2 ⊢
    simp only at K2 ⊢
    generalize l.length = n at *
    generalize l'.length = n' at *
    go_enter Tryd.func12, Tryd.ntmps12
    go_wp2_with (first | (go_at_call 27; refine K1.mono ?_; clear K1; rintro e w1 ⟨rfl, hE1⟩; have K2a := K2.out w1 (HA.out.trans hE1); replace hE1 := hid hE1) | (go_at_call 28; refine K2a.mono ?_; clear K2a; rintro e w2 ⟨rfl, hE2⟩; replace hE2 := hid hE2) | fail "no arm")
    go_ret2
    exact ⟨rfl, (HA.out.trans hE1.out).trans hE2.out⟩
  · rw [if_neg h0]
    have hb : (vk2 ts d t l l' != 0) = true := by simpa using h0
    clear h0 hT hG hC hC' hrow
    generalize vk2 ts d t l l' = er at *
    unfold paV
    simp only
    generalize l.length = n at *
    generalize l'.length = n' at *
    go_enter Tryd.func12, Tryd.ntmps12
    go_wp2_with (first | (go_at_call 27; refine K1.mono ?_; clear K1; rintro e w1 ⟨rfl, hE1⟩; replace hE1 := hid hE1) | fail "no arm")
    go_ret2
    exact ⟨rfl, HA.out.trans hE1.out⟩

end Go.Proofs.YtpjcbpgfbhlioaaDoor
