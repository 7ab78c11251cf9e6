/-
  EqualSame, walked through; its frame is in LawSame.
-/
import Derived.Test.YtpjcbpgfbhlioaaDoorSameM
import Derived.Test.YtpjcbpgfbhlioaaDoorRSame
import Derived.Deep.Cut
namespace Go.Proofs.YtpjcbpgfbhlioaaDoor
open Go.RowKit

theorem same_self {ts : List Ty} {d : Nat} {t : Int} {l : List Cl} (he : (eqR ts d t l l).2 = 0) (hf : (sfR ts d t l).2 = 0) : (eqR ts d t l l).1 = (sfR ts d t l).1 := by
  unfold eqR at he ⊢
  unfold sfR at hf ⊢
  by_cases h0 : vk2 ts d t l l = 0
  · rw [if_pos h0]
    by_cases h1 : (hsR ts d t l 0 0).2 = 0
    · rw [if_pos h1]
    · rw [if_neg h1] at hf; exact absurd hf h1
  · rw [if_neg h0] at he; exact absurd he h0
theorem same_nof {ts : List Ty} {d : Nat} {t : Int} {l m : List Cl} (hd : Dp d l) (he : (eqR ts d t l m).2 = 0) (h : NoF ts) : (eqR ts d t l m).1 = true ↔ l = m := by
  unfold eqR at he ⊢
  by_cases h0 : vk2 ts d t l m = 0
  · rw [if_pos h0] at he ⊢
    obtain ⟨z1, z2, _⟩ := vk2_zero h0
    obtain ⟨hb, ho⟩ := vchk_zero z1
    obtain ⟨_, ho'⟩ := vchk_zero z2
    obtain ⟨hS, q0, q1⟩ := bad_zero hb
    obtain ⟨q, rfl⟩ : ∃ q : Nat, t = q := ⟨t.toNat, by omega⟩
    exact eqV_same hS h d q l m (by omega) hd ho.2 ho'.2 he
  · rw [if_neg h0] at he; exact absurd he h0
theorem eqR_bad {ts : List Ty} {d : Nat} {t : Int} {l m : List Cl} (h : (eqR ts d t l m).2 ≠ 0) : (eqR ts d t l m).1 = false := by
  unfold eqR at h ⊢
  by_cases h0 : vk2 ts d t l m = 0
  · rw [if_pos h0] at h ⊢
    cases hq : (eqV ts d t l m).1
    · rfl
    · rw [eqV_ok hq] at h; simp at h
  · rw [if_neg h0]

set_option maxRecDepth 100000 in
set_option maxHeartbeats 16000000 in
theorem same_walk (ts : List Ty) (ta : Option Addr) (tn tc : Nat) (htn : ts.length = tn) (d : Nat) (t : Int) (a : Option Addr) (l : List Cl) (c : Nat) (am : Option Addr) (m : List Cl) (mc : Nat) (w : World) (hC : Cs d w a l) (hM : Cs d w am m) (hT : Tab w ta ts) (hG : Gl w)
    (KSm : ∀ u, Ext [] w u → Calls Tryd.prog 22 #[.slice a l.length c, .slice am m.length mc] u (TestPost u (l = m))) :
    Calls Tryd.prog 6 #[.agg #[.slice ta tn tc, .int .i64 t, .slice a l.length c], .slice am m.length mc] w (SayPost w (.bool true)) := by
  have hE0 := Ext.alloc [] w (.cells #[.slice ta tn tc, .int .i64 t, .slice a l.length c] 25)
  have hb0 := heap_alloc_new w (.cells #[.slice ta tn tc, .int .i64 t, .slice a l.length c] 25)
  have KA := awake_any (w.alloc (.cells #[.slice ta tn tc, .int .i64 t, .slice a l.length c] 25))
  have HQ : Hid (∀ u, Ext [] (w.alloc (.cells #[.slice ta tn tc, .int .i64 t, .slice a l.length c] 25)) u → u.cell? ⟨w.heap.size, 0, none⟩ = some (.slice ta tn tc) ∧ u.cell? ⟨w.heap.size, 1, none⟩ = some (.int .i64 t) ∧ u.cell? ⟨w.heap.size, 2, none⟩ = some (.slice a l.length c)) := fun u hu =>
    ⟨hu.cell (by rw [cell_of_row _ _ _ _ _ _ hb0]; rfl) (by simp), hu.cell (by rw [cell_of_row _ _ _ _ _ _ hb0]; rfl) (by simp), hu.cell (by rw [cell_of_row _ _ _ _ _ _ hb0]; rfl) (by simp)⟩
  have HE0 := hid hE0
  have KT : ∀ u, Ext [] w u → Calls Tryd.prog 13 #[.slice ta tn tc] u (fun e w' => ∃ at1 ct1, e = .returned (.slice at1 tn ct1) ∧ tn ≤ ct1 ∧ Tab w' at1 ts ∧ Ext [] u w') := fun u hu => (copy_any ta ts tn tc u (hT.keep0 hu) htn).mono (by rintro e w' ⟨a1, c1, G, h1, h2, _, h4, h5⟩; exact ⟨a1, c1, h1, h2, h4, h5⟩)
  have KV : ∀ u, Ext [] w u → Calls Tryd.prog 14 #[.slice a l.length c] u (fun e w' => ∃ av1 cv1, e = .returned (.slice av1 l.length cv1) ∧ Cs d w' av1 l ∧ Ext [] u w') := fun u hu => (rcopy_any d a l _ c u (hC.keep0 hu) rfl).mono (by rintro e w' ⟨a1, c1, h1, _, h2, h3⟩; exact ⟨a1, c1, h1, h2.cs, h3⟩)
  have KM : ∀ u, Ext [] w u → Calls Tryd.prog 14 #[.slice am m.length mc] u (fun e w' => ∃ am1 cm1, e = .returned (.slice am1 m.length cm1) ∧ Cs d w' am1 m ∧ Ext [] u w') := fun u hu => (rcopy_any d am m _ mc u (hM.keep0 hu) rfl).mono (by rintro e w' ⟨a1, c1, h1, _, h2, h3⟩; exact ⟨a1, c1, h1, h2.cs, h3⟩)
  have KE : ∀ u, Ext [] w u → ∀ at1 ct1, tn ≤ ct1 → ∀ av1 cv1 am1 cm1, Tab u at1 ts → Cs d u av1 l → Cs d u am1 m → Calls Tryd.prog 12 #[.slice at1 tn ct1, .int .i64 t, .slice av1 l.length cv1, .slice am1 m.length cm1] u (SayPost u (paV (eqR ts d t l m))) := fun u hu at1 ct1 hct av1 cv1 am1 cm1 h1 h2 h3 => equal_any ts at1 tn ct1 htn hct d t av1 l cv1 am1 m cm1 u h2 h3 h1 (hG.keep0 hu)
  have KS : ∀ u, Ext [] w u → ∀ at1 ct1, tn ≤ ct1 → ∀ av1 cv1, Tab u at1 ts → Cs d u av1 l → Calls Tryd.prog 18 #[.slice at1 tn ct1, .int .i64 t, .slice av1 l.length cv1] u (SayPost u (paV (sfR ts d t l))) := fun u hu at1 ct1 hct av1 cv1 h1 h2 => self_any ts at1 tn ct1 htn hct d t av1 l cv1 u h2 h1 (hG.keep0 hu)
  have HA : Hid ((eqR ts d t l m).2 ≠ 0 → (eqR ts d t l m).1 = false) := fun h => eqR_bad h
  have HB : Hid (l = m → (eqR ts d t l m).2 = 0 → (sfR ts d t l).2 = 0 → (eqR ts d t l m).1 = (sfR ts d t l).1) := fun e h1 h2 => by subst e; exact same_self h1 h2
  have HNF : Hid (NoF ts → (eqR ts d t l m).2 = 0 → ((eqR ts d t l m).1 = true ↔ l = m)) := fun h h1 => same_nof hC.dp h1 h
  have htc := hT.len
  rw [htn] at htc
  have HT := hid hT
  have HTN := hid htn
  have HKS := hid KSm
  unfold paV at KE KS
  clear hT hG hC hM hE0 hb0 KSm htn
  generalize (sfR ts d t l).1 = sf at *
  generalize (sfR ts d t l).2 = se at *
  generalize (eqR ts d t l m).1 = ok at *
  generalize (eqR ts d t l m).2 = ee at *
  go_enter Tryd.func6, Tryd.ntmps6
  go_upto_region 3 with (first | (go_at_call 9; refine KA.mono ?_; clear KA; rintro e w1 ⟨rfl, hE1⟩) | fail "no arm")
  have hX_w1 : Ext [] w w1 := HE0.out.trans hE1
  obtain ⟨q0, q1, q2⟩ := HQ.out w1 hE1
  clear hE1 HQ HE0
  generalize w.heap.size = qb at *
  go_region_held3 (fun u => u.cell? ⟨qb, 0, none⟩ = some (.slice ta tn tc) ∧ u.cell? ⟨qb, 1, none⟩ = some (.int .i64 t) ∧ u.cell? ⟨qb, 2, none⟩ = some (.slice a l.length c))
    (first | exact ⟨Ext.cell (by (repeat (first | (with_reducible exact Ext.refl [] _) | (with_reducible exact Ext.drew [] _) | (with_reducible assumption) | (with_reducible refine Ext.trans ?_ (Ext.drew [] _)) | (with_reducible refine Ext.trans ?_ (by assumption)) | fail "no chain"))) q0 (by simp), Ext.cell (by (repeat (first | (with_reducible exact Ext.refl [] _) | (with_reducible exact Ext.drew [] _) | (with_reducible assumption) | (with_reducible refine Ext.trans ?_ (Ext.drew [] _)) | (with_reducible refine Ext.trans ?_ (by assumption)) | fail "no chain"))) q1 (by simp), Ext.cell (by (repeat (first | (with_reducible exact Ext.refl [] _) | (with_reducible exact Ext.drew [] _) | (with_reducible assumption) | (with_reducible refine Ext.trans ?_ (Ext.drew [] _)) | (with_reducible refine Ext.trans ?_ (by assumption)) | fail "no chain"))) q2 (by simp)⟩ | go_keep)
    (first
      | (go_at_call 13; (with_reducible refine Calls.mono (KT _ ?_) ?_); (repeat (first | (with_reducible exact Ext.refl [] _) | (with_reducible exact Ext.drew [] _) | (with_reducible assumption) | (with_reducible refine Ext.trans ?_ (Ext.drew [] _)) | (with_reducible refine Ext.trans ?_ (by assumption)) | fail "no chain")); rintro e wt ⟨at1, ct1, rfl, hct, hTC, hEt⟩)
      | (go_at_call 14; (with_reducible refine Calls.mono (KV _ ?_) ?_); (repeat (first | (with_reducible exact Ext.refl [] _) | (with_reducible exact Ext.drew [] _) | (with_reducible assumption) | (with_reducible refine Ext.trans ?_ (Ext.drew [] _)) | (with_reducible refine Ext.trans ?_ (by assumption)) | fail "no chain")); rintro e wv ⟨av1, cv1, rfl, hCo, hEv⟩)
      | (go_at_call 14; (with_reducible refine Calls.mono (KM _ ?_) ?_); (repeat (first | (with_reducible exact Ext.refl [] _) | (with_reducible exact Ext.drew [] _) | (with_reducible assumption) | (with_reducible refine Ext.trans ?_ (Ext.drew [] _)) | (with_reducible refine Ext.trans ?_ (by assumption)) | fail "no chain")); rintro e wm ⟨am1, cm1, rfl, hCm, hEm⟩)
      | (go_at_call 12; refine Calls.mono (KE _ ?_ at1 ct1 hct av1 cv1 am1 cm1 (hTC.keep0 ?_) (hCo.keep0 ?_) (hCm.keep0 ?_)) ?_; (repeat (first | (with_reducible exact Ext.refl [] _) | (with_reducible exact Ext.drew [] _) | (with_reducible assumption) | (with_reducible refine Ext.trans ?_ (Ext.drew [] _)) | (with_reducible refine Ext.trans ?_ (by assumption)) | fail "no chain")); (repeat (first | (with_reducible exact Ext.refl [] _) | (with_reducible exact Ext.drew [] _) | (with_reducible assumption) | (with_reducible refine Ext.trans ?_ (Ext.drew [] _)) | (with_reducible refine Ext.trans ?_ (by assumption)) | fail "no chain")); (repeat (first | (with_reducible exact Ext.refl [] _) | (with_reducible exact Ext.drew [] _) | (with_reducible assumption) | (with_reducible refine Ext.trans ?_ (Ext.drew [] _)) | (with_reducible refine Ext.trans ?_ (by assumption)) | fail "no chain")); (repeat (first | (with_reducible exact Ext.refl [] _) | (with_reducible exact Ext.drew [] _) | (with_reducible assumption) | (with_reducible refine Ext.trans ?_ (Ext.drew [] _)) | (with_reducible refine Ext.trans ?_ (by assumption)) | fail "no chain")); rintro e w2 ⟨rfl, hEr⟩)
      | fail "no arm")
  rename_i hHeld
  clear q0 q1 q2
  obtain ⟨q0, q1, q2⟩ := hHeld
  have hX_w2 : Ext [] w w2 := by (repeat (first | (with_reducible exact Ext.refl [] _) | (with_reducible exact Ext.drew [] _) | (with_reducible assumption) | (with_reducible refine Ext.trans ?_ (Ext.drew [] _)) | (with_reducible refine Ext.trans ?_ (by assumption)) | fail "no chain"))
  clear hEt hEv hEm hEr hTC hCo hCm hct hX_w1 KE KM
  go_upto_region 4 with fail
  go_region_held3 (fun u => u.cell? ⟨qb, 0, none⟩ = some (.slice ta tn tc) ∧ u.cell? ⟨qb, 1, none⟩ = some (.int .i64 t) ∧ u.cell? ⟨qb, 2, none⟩ = some (.slice a l.length c))
    (first | exact ⟨Ext.cell (by (repeat (first | (with_reducible exact Ext.refl [] _) | (with_reducible exact Ext.drew [] _) | (with_reducible assumption) | (with_reducible refine Ext.trans ?_ (Ext.drew [] _)) | (with_reducible refine Ext.trans ?_ (by assumption)) | fail "no chain"))) q0 (by simp), Ext.cell (by (repeat (first | (with_reducible exact Ext.refl [] _) | (with_reducible exact Ext.drew [] _) | (with_reducible assumption) | (with_reducible refine Ext.trans ?_ (Ext.drew [] _)) | (with_reducible refine Ext.trans ?_ (by assumption)) | fail "no chain"))) q1 (by simp), Ext.cell (by (repeat (first | (with_reducible exact Ext.refl [] _) | (with_reducible exact Ext.drew [] _) | (with_reducible assumption) | (with_reducible refine Ext.trans ?_ (Ext.drew [] _)) | (with_reducible refine Ext.trans ?_ (by assumption)) | fail "no chain"))) q2 (by simp)⟩ | go_keep)
    (first
      | (go_at_call 13; (with_reducible refine Calls.mono (KT _ ?_) ?_); (repeat (first | (with_reducible exact Ext.refl [] _) | (with_reducible exact Ext.drew [] _) | (with_reducible assumption) | (with_reducible refine Ext.trans ?_ (Ext.drew [] _)) | (with_reducible refine Ext.trans ?_ (by assumption)) | fail "no chain")); rintro e wt ⟨at1, ct1, rfl, hct, hTC, hEt⟩)
      | (go_at_call 14; (with_reducible refine Calls.mono (KV _ ?_) ?_); (repeat (first | (with_reducible exact Ext.refl [] _) | (with_reducible exact Ext.drew [] _) | (with_reducible assumption) | (with_reducible refine Ext.trans ?_ (Ext.drew [] _)) | (with_reducible refine Ext.trans ?_ (by assumption)) | fail "no chain")); rintro e wv ⟨av1, cv1, rfl, hCo, hEv⟩)
      | (go_at_call 18; refine Calls.mono (KS _ ?_ at1 ct1 hct av1 cv1 (hTC.keep0 ?_) (hCo.keep0 ?_)) ?_; (repeat (first | (with_reducible exact Ext.refl [] _) | (with_reducible exact Ext.drew [] _) | (with_reducible assumption) | (with_reducible refine Ext.trans ?_ (Ext.drew [] _)) | (with_reducible refine Ext.trans ?_ (by assumption)) | fail "no chain")); (repeat (first | (with_reducible exact Ext.refl [] _) | (with_reducible exact Ext.drew [] _) | (with_reducible assumption) | (with_reducible refine Ext.trans ?_ (Ext.drew [] _)) | (with_reducible refine Ext.trans ?_ (by assumption)) | fail "no chain")); (repeat (first | (with_reducible exact Ext.refl [] _) | (with_reducible exact Ext.drew [] _) | (with_reducible assumption) | (with_reducible refine Ext.trans ?_ (Ext.drew [] _)) | (with_reducible refine Ext.trans ?_ (by assumption)) | fail "no chain")); rintro e w3 ⟨rfl, hEr⟩)
      | fail "no arm")
  rename_i hHeld
  clear q0 q1 q2
  obtain ⟨q0, q1, q2⟩ := hHeld
  have hX_w3 : Ext [] w w3 := by (repeat (first | (with_reducible exact Ext.refl [] _) | (with_reducible exact Ext.drew [] _) | (with_reducible assumption) | (with_reducible refine Ext.trans ?_ (Ext.drew [] _)) | (with_reducible refine Ext.trans ?_ (by assumption)) | fail "no chain"))
  clear hEt hEv hEr hTC hCo hct hX_w2 KS KT KV
  have HX3 := hid hX_w3
  have KSa := HKS.out w3 hX_w3
  clear hX_w3 HKS
  by_cases hee : ee = 0
  · subst hee
    go_upto_region 8 with (first | (go_at_call 22; refine KSa.mono ?_; clear KSa; rintro e w4 ⟨r, rfl, hE4, hr⟩; replace hr := hid hr; replace hE4 := hid hE4) | fail "no arm")
    replace q0 := hE4.out.cell q0 (by simp)
    have HX4 := hid (HX3.out.trans hE4.out)
    clear hE4 HX3 q1 q2 HA
    have HOk : Hid (NoF ts → ok = r) := fun h => by
      have h1 := HNF.out h trivial
      have h2 := hr.out
      cases ok <;> cases r <;> simp_all
    go_cut [60] from 51 (fun q wc => q = .bool false ∧ w4 = wc)
    case first =>
      clear HOk HNF HT HTN
      cases r
      · go_wp2_with fail
        go_meet
        exact ⟨rfl, rfl⟩
      · by_cases hse : se = 0
        · have hs := HB.out (hr.out.1 rfl) trivial hse
          subst hse hs
          have bo : (ok == ok) = true := by simp
          go_wp2_with fail
          go_meet
          exact ⟨rfl, rfl⟩
        · have bs : (se == 0) = false := by simpa using hse
          clear hse
          go_wp2_with fail
          go_meet
          exact ⟨rfl, rfl⟩
    case rest =>
      obtain ⟨rfl, rfl⟩ := hcut
      clear HNF HB
      go_upto_region 11 with fail
      go_loopw [10] (fun v wr => ∃ i : Nat, v = .int .i64 i ∧ i ≤ tn ∧ Hid (∀ j : Nat, j < i → (tyAt ts j).kind ≠ 3) ∧ w4 = wr) (fun v _ => (tn - (intOf v)).toNat)
      case atStart => exact ⟨0, rfl, Nat.zero_le _, hid (fun j hj => by omega), rfl⟩
      case round =>
        obtain ⟨i, rfl, hi, hR, rfl⟩ := hrel
        by_cases hlt : i < tn
        · obtain ⟨tb, to', rfl, hat⟩ := (HT.out.keep0 HX4.out).addr (by have := HTN.out; omega)
          obtain ⟨fa, fc, hty⟩ := hat i (by have := HTN.out; omega)
          have c0 := hty.c0
          have hin : (i : Int) < tn := by omega
          clear hat hty
          by_cases k3 : (tyAt ts i).kind = 3
          · rw [k3] at c0
            clear k3
            go_wp2_with fail
            go_ret
            exact ⟨rfl, HX4.out⟩
          · have b3 : ((tyAt ts i).kind == 3) = false := by simpa using k3
            have HR2 : Hid (∀ j : Nat, j < i + 1 → (tyAt ts j).kind ≠ 3) := fun j hj => by
              rcases (by omega : j < i ∨ j = i) with h | rfl
              · exact hR.out j h
              · exact k3
            clear k3 hR
            generalize (tyAt ts i).kind = kd at *
            go_wp2_with fail
            go_roundw
            case rel => exact ⟨i + 1, by go_num, by omega, HR2, trivial⟩
            case measure => simp [intOf]; omega
        · have hok := HOk.out (fun j hj => hR.out j (by have := HTN.out; omega))
          subst hok
          have bo : (ok == ok) = true := by simp
          have hin : ¬ ((i : Int) < tn) := by omega
          clear hR
          go_wp2_with fail
          go_ret
          exact ⟨rfl, HX4.out⟩
  · have be : (ee == 0) = false := by simpa using hee
    have hok := HA.out hee
    subst hok
    clear HA HB HNF hee HT HTN KSa
    go_wp2_with fail
    go_ret
    exact ⟨rfl, HX3.out⟩

end Go.Proofs.YtpjcbpgfbhlioaaDoor
