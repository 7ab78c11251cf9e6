/-
  The program's hash of a value, Hash and Self; no statement is proved here.
-/
import Derived.Test.YtpjcbpgfbhlioaaDoorEqE
namespace Go.Proofs.YtpjcbpgfbhlioaaDoor
open Go.RowKit

/-- Folded up to cell k. -/
theorem hsL_step {f : Int → Cl → Int → Option Int} : ∀ (ks : List Int) (v : List Cl) (h : Int) (k : Nat), k < ks.length → hsL f (ks.drop k) (v.drop k) h = match f (ks.getD k 0) (cAt v k) h with
    | none => none
    | some h' => hsL f (ks.drop (k + 1)) (v.drop (k + 1)) h'
  | ks, v, h, k, hk => by
    have e1 : ks.drop k = ks.getD k 0 :: ks.drop (k + 1) := by rw [List.drop_eq_getElem_cons hk]; simp [hk]
    have e2 : cAt (v.drop k) 0 = cAt v k := by simp [cAt]
    have e3 : (v.drop k).tail = v.drop (k + 1) := by rw [List.tail_drop]
    rw [e1, hsL, e2, e3]
    cases f (ks.getD k 0) (cAt v k) h <;> rfl

set_option maxRecDepth 100000 in
set_option maxHeartbeats 8000000 in
theorem hsAt_any (ts : List Ty) (ta : Option Addr) (tn tc : Nat) (htn : ts.length = tn) (hc : tn ≤ tc) (hS : Sound ts) (w0 : World) (hT : Tab w0 ta ts) (hG : Gl w0) (p : Nat) (hp : w0.heap.size ≤ p) (salt : Int) : ∀ (d : Nat), HsAt ts ta tn tc d w0 p salt := by
  intro d
  induction d with
  | zero =>
    intro t a l n c w s hE ht hH hC hn hok
    have hkl := kinds_len hS.2.1 (t + 1) t (by omega) (by omega) (by omega)
    have hw1 := (sound_fit hS (i := t) (by omega)).1.w0
    obtain rfl : l = [] := hC
    have h0 : ([] : List Cl).length = (kinds ts t).length := hok
    simp only [List.length_nil] at h0
    omega
  | succ d ih =>
    intro t a l n c w s hE ht hH hC hn hok
    have K := kindsOf_any ts ta tn tc htn hS t ht w (hT.keep0 hE)
    have hkl := kinds_len hS.2.1 (t + 1) t (by omega) (by omega) (by omega)
    have hkw := (sound_fit hS (i := t) (by omega)).2
    have hKL : (kinds ts t).length ≤ 16 := by omega
    have hl1 : n = (kinds ts t).length := by rw [← hn]; exact hok.1
    have HE := hid hE
    have HT := hid hT
    have HG := hid hG
    have HIH := hid ih
    have HC := hid hC
    have HH := hid hH
    have HOk := hid hok.2
    have HN : Hid (l.length = (kinds ts t).length) := hok.1
    have HV : Hid (hsV ts salt (d + 1) t l s = hsL (hsC ts (hsV ts salt d) salt) ((kinds ts t).drop 0) (l.drop 0) s) := rfl
    have c0 := hH.c0
    have hpl := hH.lt
    subst hl1
    clear hT hG hE ih hC hok hn hkl hkw hH
    generalize kinds ts t = ks at *
    generalize hsV ts salt (d + 1) t l s = res at *
    go_enter Tryd.func31, Tryd.ntmps31
    go_wp2_with (first | (go_at_call 43; refine K.mono ?_; clear K; rintro e w2 ⟨ka, kc, rfl, hKS, hE2, hKN⟩; replace hKS := hid hKS; replace hE2 := hid hE2; replace hKN := hid hKN) | fail "no arm")
    have HKp : Hid (∀ ad, ka = some ad → ad.block ∉ [p]) := fun ad had => by have := hKN.out ad had; simp; omega
    have HE2 := hid (HE.out.trans hE2.out)
    have HP : Hid (∀ u v : World, Ext [] w0 u → Ext [p] u v → Ext [] w0 v) := fun u v h1 h2 => h1.on h2 (by simpa using hp)
    go_loopw [16] (fun q wr => ∃ k : Nat, q = .int .i64 k ∧ k ≤ ks.length ∧ Hid (Ext [p] w2 wr ∧ ∃ s1, Hsh wr p (.slice ta tn tc) salt s1 ∧ res = hsL (hsC ts (hsV ts salt d) salt) (ks.drop k) (l.drop k) s1)) (fun q _ => (ks.length - (intOf q)).toNat)
    case atStart => exact ⟨0, rfl, Nat.zero_le _, hid ⟨Ext.refl _ _, s, HH.out.keep hE2.out (by simp), HV.out⟩⟩
    case round =>
      obtain ⟨k, rfl, hk, hR⟩ := hrel
      obtain ⟨hRe, s1, hRh, hRv⟩ := hR.out
      have HR1 := hid hRe
      have HR2 := hid hRh
      have HR3 := hid hRv
      have HEr := hid (HP.out _ _ HE2.out hRe)
      clear hR hRe hRh hRv
      by_cases hlt : k < ks.length
      · obtain ⟨d1, b, o, hd, rfl, hat⟩ := HC.out.at_ (by rw [HN.out]; omega)
        obtain rfl : d1 = d := by omega
        obtain ⟨ba, bc, hcl0, hbx⟩ := hat k (by rw [HN.out]; omega)
        have hcl := hcl0.keep0 HEr.out
        have hKr : Is wr ka ks := Vs.keep hKS.out HR1.out HKp.out
        obtain ⟨kb, ko, rfl, hkcs⟩ := Is.at_ hKr (by intro e; rw [e] at hlt; simp at hlt)
        have hkk := hkcs k hlt
        have K := hcell_any ts ta tn tc htn hc hS d1 w0 HT.out HG.out p hp salt HIH.out (ks.getD k 0) (cAt l k) hcl.s0 ba bc ⟨hbx, (HOk.out k (by rw [HN.out]; exact hlt)).2⟩ s1 wr HEr.out HR2.out
        have hst := hsL_step (f := hsC ts (hsV ts salt d1) salt) ks l s1 k hlt
        rw [← HR3.out] at hst
        have HST := hid hst
        have x0 := hcl.c0
        have x1 := hcl.c1
        have x2 := hcl.c2
        have x3 := hcl.c3
        have hkn : (k : Int) < ks.length := by omega
        unfold clV at K
        clear hat hcl hkcs hbx hd HOk HIH hcl0 hKr hst
        generalize hsC ts (hsV ts salt d1) salt (ks.getD k 0) (cAt l k) s1 = r at *
        generalize ks.getD k 0 = kk at *
        generalize (cAt l k).box.length = xl at *
        generalize (cAt l k).n = xn at *
        generalize (cAt l k).s = xs at *
        generalize (cAt l k).t = xt at *
        cases r with
        | none =>
          have hres : res = none := HST.out
          have HRes := hid hres
          clear hres HST
          go_wp2_with (first | (go_at_call 46; refine K.mono ?_; clear K; rintro e w4 ⟨rfl, s4, hH4, hs4, hE4⟩; replace hH4 := hid hH4; replace hs4 := hid hs4; replace hE4 := hid hE4) | fail "no arm")
          go_ret
          exact ⟨by rw [HRes.out]; rfl, s4, hH4.out, (fun s' h => by rw [HRes.out] at h; cases h), ((hE2.out.mono (by simp)).trans HR1.out).trans hE4.out⟩
        | some h' =>
          have HRes : Hid (res = hsL (hsC ts (hsV ts salt d1) salt) (ks.drop (k + 1)) (l.drop (k + 1)) h') := HST.out
          clear HST
          go_wp2_with (first | (go_at_call 46; refine K.mono ?_; clear K; rintro e w4 ⟨rfl, s4, hH4, hs4, hE4⟩; replace hH4 := hid hH4; replace hs4 := hid (hs4 _ rfl); replace hE4 := hid hE4) | fail "no arm")
          go_roundw
          case rel => exact ⟨k + 1, by go_num, by omega, hid ⟨HR1.out.trans hE4.out, s4, hH4.out, by rw [hs4.out]; exact HRes.out⟩⟩
          case measure => simp [intOf]; omega
      · have hres : res = some s1 := by
          have := HR3.out
          rw [List.drop_eq_nil_of_le (by omega)] at this
          exact this
        have HRes := hid hres
        clear hres
        go_wp2_with fail
        go_ret
        exact ⟨by rw [HRes.out]; rfl, s1, HR2.out, (fun s' h => by rw [HRes.out] at h; cases h; rfl), (hE2.out.mono (by simp)).trans HR1.out⟩

/-- What Hash answers. -/
noncomputable def hsR (ts : List Ty) (d : Nat) (t : Int) (v : List Cl) (seed salt : Int) : Int × Int := if vk1 ts d t v = 0 then (match hsV ts salt d t v seed with | none => (0, 11) | some h => (h, 0)) else (0, vk1 ts d t v)
def huV (r : Int × Int) : Value := .tuple #[.int .u64 r.1, .int .i64 r.2]

set_option maxRecDepth 100000 in
set_option maxHeartbeats 4000000 in
theorem hash_any (ts : List Ty) (ta : Option Addr) (tn tc : Nat) (htn : ts.length = tn) (hc : tn ≤ tc) (d : Nat) (t : Int) (a : Option Addr) (l : List Cl) (c : Nat) (seed salt : Int) (w : World) (hC : Cs d w a l) (hT : Tab w ta ts) (hG : Gl w) :
    Calls Tryd.prog 16 #[.slice ta tn tc, .int .i64 t, .slice a l.length c, .int .u64 seed, .int .u64 salt] w (SayPost w (huV (hsR ts d t l seed salt))) := by
  have HA : Hid (Ext [] w (w.alloc (.cells #[.slice a l.length c] 23))) := Ext.alloc _ _ _
  have hrow : Row2 (w.alloc (.cells #[.slice a l.length c] 23)) d w.heap.size [(a, c, l)] := by
    intro i x hx
    have hb := heap_alloc_new w (.cells #[.slice a l.length c] 23)
    match i, hx with
    | 0, hx => cases hx; exact ⟨by rw [cell_of_row _ _ _ _ _ _ hb]; rfl, hC.keep0 HA.out⟩
    | i + 1, hx => simp at hx
  have K1 := check_any ts ta tn tc htn hc d t w.heap.size [(a, c, l)] _ (by simp) (by simp) hrow (hT.keep0 HA.out) (hG.keep0 HA.out)
  replace K1 : Calls Tryd.prog 27 #[.slice ta tn tc, .int .i64 t, .slice (some ⟨w.heap.size, 0, none⟩) 1 1] (w.alloc (.cells #[.slice a l.length c] 23)) (SayPost (w.alloc (.cells #[.slice a l.length c] 23)) (.int .i64 (vk1 ts d t l))) := K1
  unfold hsR
  by_cases h0 : vk1 ts d t l = 0
  · obtain ⟨z1, _⟩ := vk1_zero h0
    obtain ⟨hb, ho⟩ := vchk_zero z1
    obtain ⟨hS, q0, q1⟩ := bad_zero hb
    obtain ⟨q, rfl⟩ : ∃ q : Nat, t = q := ⟨t.toNat, by omega⟩
    have K2 : Hid (∀ u, Ext [] w u → Calls Tryd.prog 31 #[.pointer (some ⟨u.heap.size, 0, none⟩), .int .i64 q, .slice a l.length c] (u.alloc (.cells #[.slice ta tn tc, .int .u64 salt, .int .u64 seed] 60)) (HvPost (u.alloc (.cells #[.slice ta tn tc, .int .u64 salt, .int .u64 seed] 60)) u.heap.size (.slice ta tn tc) salt (hsV ts salt d q l seed))) := fun u hu =>
      hsAt_any ts ta tn tc htn hc hS w hT hG u.heap.size hu.size salt d q a l _ c _ seed (hu.trans (Ext.alloc _ _ _)) (by omega) (heap_alloc_new _ _) hC rfl ho.2
    rw [if_pos h0]
    rw [h0] at K1
    clear h0 z1 hb ho hS q0 q1 hT hG hC hrow
    generalize hsV ts salt d q l seed = r at *
    generalize l.length = n at *
    unfold huV
    cases r with
    | none =>
      simp only
      go_enter Tryd.func16, Tryd.ntmps16
      go_wp2_with (first | (go_at_call 27; refine K1.mono ?_; clear K1; rintro e w1 ⟨rfl, hE1⟩; have K2a := K2.out w1 (HA.out.trans hE1); replace hE1 := hid hE1) | (go_at_call 31; refine K2a.mono ?_; clear K2a; rintro e w2 ⟨rfl, s2, hH2, hs2, hE2⟩; replace hE2 := hid hE2) | fail "no arm")
      go_ret2
      exact ⟨rfl, (HA.out.trans hE1.out).on ((Ext.alloc [w1.heap.size] _ _).trans hE2.out) (by simpa using (HA.out.trans hE1.out).size)⟩
    | some h =>
      simp only
      go_enter Tryd.func16, Tryd.ntmps16
      go_wp2_with (first | (go_at_call 27; refine K1.mono ?_; clear K1; rintro e w1 ⟨rfl, hE1⟩; have K2a := K2.out w1 (HA.out.trans hE1); replace hE1 := hid hE1) | (go_at_call 31; refine K2a.mono ?_; clear K2a; rintro e w2 ⟨rfl, s2, hH2, hs2, hE2⟩; obtain rfl := hs2 _ rfl; have y2 := hH2.c2; replace hE2 := hid hE2) | fail "no arm")
      go_ret2
      exact ⟨rfl, (HA.out.trans hE1.out).on ((Ext.alloc [w1.heap.size] _ _).trans hE2.out) (by simpa using (HA.out.trans hE1.out).size)⟩
  · rw [if_neg h0]
    have hb : (vk1 ts d t l != 0) = true := by simpa using h0
    clear h0 hT hG hC hrow
    generalize vk1 ts d t l = er at *
    unfold huV
    simp only
    generalize l.length = n at *
    go_enter Tryd.func16, Tryd.ntmps16
    go_wp2_with (first | (go_at_call 27; refine K1.mono ?_; clear K1; rintro e w1 ⟨rfl, hE1⟩; replace hE1 := hid hE1) | fail "no arm")
    go_ret2
    exact ⟨rfl, HA.out.trans hE1.out⟩

/-- What Self answers. -/
noncomputable def sfR (ts : List Ty) (d : Nat) (t : Int) (v : List Cl) : Bool × Int := if (hsR ts d t v 0 0).2 = 0 then eqV ts d t v v else (false, (hsR ts d t v 0 0).2)
theorem hsR_zero {ts : List Ty} {d : Nat} {t : Int} {v : List Cl} {s s' : Int} (h : (hsR ts d t v s s').2 = 0) : vk1 ts d t v = 0 := by
  unfold hsR at h
  by_cases h0 : vk1 ts d t v = 0
  · exact h0
  · rw [if_neg h0] at h; exact absurd h h0

set_option maxRecDepth 100000 in
set_option maxHeartbeats 4000000 in
theorem self_any (ts : List Ty) (ta : Option Addr) (tn tc : Nat) (htn : ts.length = tn) (hc : tn ≤ tc) (d : Nat) (t : Int) (a : Option Addr) (l : List Cl) (c : Nat) (w : World) (hC : Cs d w a l) (hT : Tab w ta ts) (hG : Gl w) :
    Calls Tryd.prog 18 #[.slice ta tn tc, .int .i64 t, .slice a l.length c] w (SayPost w (paV (sfR ts d t l))) := by
  have K1 := hash_any ts ta tn tc htn hc d t a l c 0 0 w hC hT hG
  unfold sfR
  by_cases h0 : (hsR ts d t l 0 0).2 = 0
  · obtain ⟨z1, _⟩ := vk1_zero (hsR_zero h0)
    obtain ⟨hb, ho⟩ := vchk_zero z1
    obtain ⟨hS, q0, q1⟩ := bad_zero hb
    obtain ⟨q, rfl⟩ : ∃ q : Nat, t = q := ⟨t.toNat, by omega⟩
    have K2 : Hid (∀ u, Ext [] w u → Calls Tryd.prog 28 #[.slice ta tn tc, .int .i64 q, .slice a l.length c, .slice a l.length c] u (SayPost u (paV (eqV ts d q l l)))) := fun u hu => eqAt_any ts ta tn tc htn hc hS d w hT hG q a l _ c a l _ c u hu (by omega) (hC.keep0 hu) rfl ho.2 (hC.keep0 hu) rfl ho.2
    rw [if_pos h0]
    unfold huV at K1
    rw [h0] at K1
    clear h0 z1 hb ho hS q0 q1 hT hG hC
    generalize eqV ts d q l l = r at *
    generalize (hsR ts d q l 0 0).1 = hh at *
    obtain ⟨r1, r2⟩ := r
    unfold paV at K2 ⊢
    simp only at K2 ⊢
    generalize l.length = n at *
    go_enter Tryd.func18, Tryd.ntmps18
    go_wp2_with (first | (go_at_call 16; refine K1.mono ?_; clear K1; rintro e w1 ⟨rfl, hE1⟩; have K2a := K2.out w1 hE1; replace hE1 := hid hE1) | (go_at_call 28; refine K2a.mono ?_; clear K2a; rintro e w2 ⟨rfl, hE2⟩; replace hE2 := hid hE2) | fail "no arm")
    go_ret2
    exact ⟨rfl, hE1.out.trans hE2.out⟩
  · rw [if_neg h0]
    have hb : ((hsR ts d t l 0 0).2 != 0) = true := by simpa using h0
    unfold huV at K1
    clear h0 hT hG hC
    generalize (hsR ts d t l 0 0).1 = hh at *
    generalize (hsR ts d t l 0 0).2 = er at *
    unfold paV
    simp only
    generalize l.length = n at *
    go_enter Tryd.func18, Tryd.ntmps18
    go_wp2_with (first | (go_at_call 16; refine K1.mono ?_; clear K1; rintro e w1 ⟨rfl, hE1⟩; replace hE1 := hid hE1) | fail "no arm")
    go_ret2
    exact ⟨rfl, hE1.out⟩

end Go.Proofs.YtpjcbpgfbhlioaaDoor
