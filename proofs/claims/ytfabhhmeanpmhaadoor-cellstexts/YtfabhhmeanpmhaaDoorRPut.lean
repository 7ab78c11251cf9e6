/-
  The reference's Put; no statement is proved here.
-/
import Derived.Test.YtfabhhmeanpmhaaDoorRowB
import Derived.Test.YtfabhhmeanpmhaaDoorPut
import Derived.Test.YtfabhhmeanpmhaaDoorRPart
namespace Go.Proofs.YtfabhhmeanpmhaaDoor
open Go.RowKit

set_option maxRecDepth 100000 in
set_option maxHeartbeats 400000 in
theorem rput_bad (ts : List Ty) (ta : Option Addr) (tn tc : Nat) (htn : ts.length = tn) (d : Nat) (t i : Int) (a : Option Addr) (l : List Cl) (n c : Nat) (x : Value) (w : World) (hC : Cs d w a l) (hn : l.length = n) (hnc : n ≤ c) (hT : Tab w ta ts) (hb : fchk ts d t l i ≠ 0) :
    Calls Tryd.prog 24 #[.slice ta tn tc, .int .i64 t, .slice a n c, .int .i64 i, x] w (QPost w d [] (fchk ts d t l i)) := by
  have K := rparted_any ts ta tn tc htn d t i a l n c w hC hn hnc hT
  have hb2 : (fchk ts d t l i != 0) = true := by simpa using hb
  generalize fchk ts d t l i = er at *
  clear hC hT
  go_enter Tryd.func24, Tryd.ntmps24
  go_wp2_with (go_at_call 45; refine K.mono ?_; rintro e w1 ⟨rfl, hE1⟩)
  go_ret2
  exact ⟨none, 0, rfl, Nat.le_refl _, Co.nil _ _ _ _, hE1⟩

/-- What a list is with others put in: the row that three appends make. -/
theorem joined (d : Nat) (w w3 : World) (hE : Ext [] w w3) (b o : Nat) (l : List Cl) (n c : Nat) (am : Option Addr) (m : List Cl) (mn mc bg en : Nat) (hC : Cs (d + 1) w (some ⟨b, o, none⟩) l) (hn : l.length = n) (hM : Cs (d + 1) w am m) (hmn : m.length = mn) (hen : en = bg + mn) (hle : en ≤ n) (hbig : n ≤ 256) (ea : Option Addr) (hea : en < n → ea = some ⟨b, o + en * 4, none⟩) (ec : Nat) :
    ∃ v1 w4 v2 w5 a6 c6 w6, (Builtin.append_ #[23, 23] 23 #[.slice none 0 0, .slice (some ⟨b, o, none⟩) bg c]).run Tryd.prog w3 = .ok v1 w4 ∧ (Builtin.append_ #[23, 23] 23 #[v1, .slice am mn mc]).run Tryd.prog w4 = .ok v2 w5 ∧
      (Builtin.append_ #[23, 23] 23 #[v2, .slice ea (n - en) ec]).run Tryd.prog w5 = .ok (.slice a6 n c6) w6 ∧ Cs (d + 1) w6 a6 (putIn l m bg) ∧ n ≤ c6 ∧ Ext [] w w6 := by
  obtain ⟨H, hH⟩ := src_row hC
  obtain ⟨s1, s2⟩ := sub_row hH (Nat.zero_le bg) (by omega)
  obtain ⟨t1, t2⟩ := sub_row hH (p := en) (q := n) hle (by omega)
  have e0 : (l.take bg).drop 0 = l.take bg := rfl
  have e1 : (l.take n).drop en = l.drop en := by rw [← hn, List.take_length]
  rw [e0, Nat.sub_zero] at s2
  rw [e0] at s1
  rw [e1] at t1 t2
  -- what is put in
  obtain ⟨J, j1, j2⟩ : ∃ J, Bsh d w m J ∧ (mn = 0 ∨ ∃ b2 o2, am = some ⟨b2, o2, none⟩ ∧ ∀ j u, (crows m J mn)[j]? = some u → w.cell? ⟨b2, o2 + j, none⟩ = some u) := by
    by_cases h0 : 0 < m.length
    · obtain ⟨d2, b2, o2, hd, rfl, _⟩ := hM.at_ h0
      obtain ⟨J, hJ⟩ := src_row hM
      obtain ⟨k1, k2⟩ := sub_row hJ (Nat.zero_le m.length) (Nat.le_refl _)
      have e2 : (m.take m.length).drop 0 = m := by simp
      rw [e2] at k1 k2
      have e3 : (fun i => J (0 + i)) = J := by funext i; rw [Nat.zero_add]
      rw [e3] at k1 k2
      exact ⟨J, k1, .inr ⟨b2, o2, rfl, fun j u hu => by have := k2 j u (by rw [Nat.sub_zero, hmn]; exact hu); simpa using this⟩⟩
    · exact ⟨fun _ => (none, 0), fun i hi => by omega, .inl (by omega)⟩
  have e3 : (fun i => H (0 + i)) = H := by funext i; rw [Nat.zero_add]
  rw [e3] at s1 s2
  have hlb : (l.take bg).length = bg := by simp; omega
  have hld : (l.drop en).length = n - en := by simp; omega
  obtain ⟨v1, w4, r1, o1, x1⟩ := app4 w w3 hE (.slice none 0 0) 0 [] ⟨rfl, .inl ⟨rfl, rfl⟩⟩ (some ⟨b, o, none⟩) bg c (crows (l.take bg) H bg) (length_crows _ _ _) (.inr ⟨b, o, rfl, fun j u hu => by have := hE.cell (s2 j u hu) (by simp); simpa using this⟩) (crows_one _ _ _) (by omega)
  obtain ⟨v2, w5, r2, o2, x2⟩ := app4 w w4 x1 v1 (0 + bg) _ o1 am mn mc (crows m J mn) (length_crows _ _ _) (j2.imp id fun ⟨b2, o2, h1, h2⟩ => ⟨b2, o2, h1, fun j u hu => x1.cell (h2 j u hu) (by simp)⟩) (crows_one _ _ _) (by omega)
  obtain ⟨v3, w6, r3, o3, x3⟩ := app4 w w5 x2 v2 (0 + bg + mn) _ o2 ea (n - en) ec (crows (l.drop en) (fun i => H (en + i)) (n - en)) (length_crows _ _ _) (by
    by_cases h : en < n
    · exact .inr ⟨b, o + en * 4, hea h, fun j u hu => x2.cell (t2 j u hu) (by simp)⟩
    · exact .inl (by omega)) (crows_one _ _ _) (by omega)
  obtain ⟨a6, c6, rfl, hc6⟩ := own_slice o3
  have hrow : [] ++ crows (l.take bg) H bg ++ crows m J mn ++ crows (l.drop en) (fun i => H (en + i)) (n - en) = crows (putIn l m bg) (jn (l.take bg ++ m).length (jn (l.take bg).length H J) (fun i => H (en + i))) n := by
    have a1 := crows_app (L1 := l.take bg) (L2 := m) (G1 := H) (G2 := J) mn
    have a2 := crows_app (L1 := l.take bg ++ m) (L2 := l.drop en) (G1 := jn (l.take bg).length H J) (G2 := fun i => H (en + i)) (n - en)
    have l2 : (l.take bg ++ m).length = bg + mn := by simp; omega
    have hp : putIn l m bg = l.take bg ++ m ++ l.drop en := by unfold putIn; rw [hmn, ← hen]
    rw [hlb] at a1
    rw [l2, hlb] at a2
    rw [hp, l2, hlb, List.nil_append, ← a1, ← a2, show bg + mn + (n - en) = n by omega]
  rw [hrow, show 0 + bg + mn + (n - en) = n by omega] at o3
  refine ⟨v1, w4, v2, w5, a6, c6, w6, r1, r2, by rw [show 0 + bg + mn + (n - en) = n by omega] at r3; exact r3, ?_, by omega, x3⟩
  have hp : putIn l m bg = l.take bg ++ m ++ l.drop en := by unfold putIn; rw [hmn, ← hen]
  exact cs_of_row o3 (by rw [hp]; exact Bsh.app (Bsh.app s1 j1) t1) x3 (by rw [putIn_len (by omega), hn]) (by omega)

set_option maxRecDepth 100000 in
set_option maxHeartbeats 1000000 in
theorem rput_form (ts : List Ty) (ta : Option Addr) (tn tc : Nat) (htn : ts.length = tn) (d q ii : Nat) (a : Option Addr) (l : List Cl) (n c : Nat) (am : Option Addr) (m : List Cl) (mn mc : Nat) (w : World) (hC : Cs d w a l) (hn : l.length = n) (hnc : n ≤ c) (hM : Cs d w am m) (hmn : m.length = mn) (hmc : mn ≤ mc) (hT : Tab w ta ts) (hv : vchk ts d q l = 0) (hi : ii < (parts (tyAt ts q)).length) (hb : ¬ OkV ts d (pk ts q ii) m) :
    Calls Tryd.prog 24 #[.slice ta tn tc, .int .i64 q, .slice a n c, .int .i64 ii, .slice am mn mc] w (QPost w d [] 1) := by
  have K := rparted_any ts ta tn tc htn d q ii a l n c w hC hn hnc hT
  have hps : parts (tyAt ts q) ≠ [] := fun e => by rw [e] at hi; simp at hi
  rw [fchk_ok hv hps (by omega)] at K
  obtain ⟨hS, h0, h1⟩ := bad_zero (vchk_zero hv).1
  have KP := fun u (hu : Ext [] w u) => place_any ts ta tn tc htn hS q ii u (hT.keep0 hu) (by omega) hi
  obtain ⟨o1, o2, o3, o4, o5, o6⟩ := offs_facts hv hi
  obtain ⟨p1, p2, p3⟩ := pk_facts hv hi
  rw [o1, o2, p1] at KP
  have KK := fun u (hu : Ext [] w u) => rvcheck_any ts ta tn tc htn d (pk ts q ii) am m mn mc u (hM.keep0 hu) hmn hmc (hT.keep0 hu)
  rw [vchk_form (bad_ok hS ⟨by omega, by omega⟩) hb] at KK
  generalize pk ts q ii = kp at *
  generalize pb ts q ii = bg at *
  generalize pb ts q (ii + 1) = en at *
  clear hC hT hv hi hM hb o1 o2 o3 o4 o5 o6 p1 p2 p3 hS h0 h1 hps
  go_enter Tryd.func24, Tryd.ntmps24
  go_wp2_with (first | (go_at_call 45; refine K.mono ?_; rintro e w1 ⟨rfl, hE1⟩) | (go_at_call 46; refine (KP _ hE1).mono ?_; rintro e w2 ⟨rfl, hE2⟩; have hE12 := hE1.trans hE2) | (go_at_call 12; refine (KK _ hE12).mono ?_; rintro e w3 ⟨rfl, hE3⟩))
  go_ret2
  exact ⟨none, 0, rfl, Nat.le_refl _, Co.nil _ _ _ _, hE12.trans hE3⟩

set_option maxRecDepth 100000 in
set_option maxHeartbeats 1000000 in
theorem rput_rest (ts : List Ty) (ta : Option Addr) (tn tc : Nat) (htn : ts.length = tn) (d q ii : Nat) (a : Option Addr) (l : List Cl) (n c : Nat) (am : Option Addr) (m : List Cl) (mn mc : Nat) (w : World) (hC : Cs d w a l) (hn : l.length = n) (hnc : n ≤ c) (hM : Cs d w am m) (hmn : m.length = mn) (hmc : mn ≤ mc) (hT : Tab w ta ts) (hv : vchk ts d q l = 0) (hi : ii < (parts (tyAt ts q)).length) (hb : OkV ts d (pk ts q ii) m) :
    Calls Tryd.prog 24 #[.slice ta tn tc, .int .i64 q, .slice a n c, .int .i64 ii, .slice am mn mc] w (fun e w' => (siz (putL ts q l ii m) ≤ 256 → QPost w d (putL ts q l ii m) 0 e w') ∧ (¬ siz (putL ts q l ii m) ≤ 256 → QPost w d [] 6 e w')) := by
  have K := rparted_any ts ta tn tc htn d q ii a l n c w hC hn hnc hT
  have hps : parts (tyAt ts q) ≠ [] := fun e => by rw [e] at hi; simp at hi
  rw [fchk_ok hv hps (by omega)] at K
  obtain ⟨hS, h0, h1⟩ := bad_zero (vchk_zero hv).1
  have KP := fun u (hu : Ext [] w u) => place_any ts ta tn tc htn hS q ii u (hT.keep0 hu) (by omega) hi
  obtain ⟨o1, o2, o3, o4, o5, o6⟩ := offs_facts hv hi
  obtain ⟨p1, p2, p3⟩ := pk_facts hv hi
  rw [o1, o2, p1] at KP
  have KK := fun u (hu : Ext [] w u) => rvcheck_any ts ta tn tc htn d (pk ts q ii) am m mn mc u (hM.keep0 hu) hmn hmc (hT.keep0 hu)
  rw [vchk_ok (bad_ok hS ⟨by omega, by omega⟩) hb] at KK
  have hlm := okv_len hb.2
  have hl256 : n ≤ 256 := by
    have h1 := (vchk_zero hv).2.1
    have h2 := totL_len l
    unfold siz at h1
    omega
  obtain ⟨d', b, o, rfl, rfl, _⟩ := hC.at_ o5
  have hen : pb ts q (ii + 1) = pb ts q ii + mn := by omega
  have KJ := fun u (hu : Ext [] w u) ea hea ec => joined d' w u hu b o l n c am m mn mc (pb ts q ii) (pb ts q (ii + 1)) hC hn hM hmn hen (by omega) hl256 ea hea ec
  have hPL : (putL ts q l ii m).length = n := by unfold putL; rw [putIn_len (by omega), hn]
  have HPL := hid hPL
  have KJ2 : ∀ u, Ext [] w u → ∀ ea, (pb ts q (ii + 1) < n → ea = some ⟨b, o + pb ts q (ii + 1) * 4, none⟩) → ∀ ec, ∃ v1 w4 v2 w5 a6 c6 w6, (Builtin.append_ #[23, 23] 23 #[.slice none 0 0, .slice (some ⟨b, o, none⟩) (pb ts q ii) c]).run Tryd.prog u = .ok v1 w4 ∧ (Builtin.append_ #[23, 23] 23 #[v1, .slice am mn mc]).run Tryd.prog w4 = .ok v2 w5 ∧
      (Builtin.append_ #[23, 23] 23 #[v2, .slice ea (n - pb ts q (ii + 1)) ec]).run Tryd.prog w5 = .ok (.slice a6 n c6) w6 ∧ Cs (d' + 1) w6 a6 (putL ts q l ii m) ∧ n ≤ c6 ∧ Ext [] w w6 := KJ
  clear KJ
  generalize hpl : putL ts q l ii m = PL at *
  clear hpl
  generalize pk ts q ii = kp at *
  generalize pb ts q ii = bg at *
  generalize pb ts q (ii + 1) = en at *
  have g1 : (bg : Int) ≤ c := by omega
  have g2 : (en : Int) ≤ n := by omega
  have g2' : (en : Int) ≤ c := by omega
  clear hC hT hv hi hM hb o1 o2 o3 o4 o5 o6 p1 p2 p3 hS h0 h1 hps hlm hl256 hmn hmc hen hPL hn
  go_enter Tryd.func24, Tryd.ntmps24
  go_upto_region 8 with (first | (go_at_call 45; refine K.mono ?_; rintro e w1 ⟨rfl, hE1⟩) | (go_at_call 46; refine (KP _ hE1).mono ?_; rintro e w2 ⟨rfl, hE2⟩; have hE12 := hE1.trans hE2) | (go_at_call 12; refine (KK _ hE12).mono ?_; rintro e w3 ⟨rfl, hE3⟩))
  have hE := hE12.trans hE3
  clear hE12 hE3 hE1 hE2 K KP KK
  obtain ⟨v1, w4, v2, w5, a6, c6, w6, r1, r2, r3, hC6, hc6, hE6⟩ := KJ2 w3 hE (if en < c then some ⟨b, o + en * 4, none⟩ else some ⟨b, o, none⟩) (fun h => by rw [if_pos (by omega)]) (c - en)
  have KS := rsize_any (d' + 1) a6 PL n c6 w6 hC6 HPL.out
  have KC := rcopy_any (d' + 1) a6 PL n c6 w6 hC6 HPL.out
  have HE6 := hid hE6
  clear hC6 hE6 KJ2 hE
  go_upto_region 9 with (at_builtin; refine wpList_append_run rfl _ _ 23 rfl _ _ _ rfl rfl r1 ?_)
  clear r1
  go_upto_region 10 with (at_builtin; refine wpList_append_run rfl _ _ 23 rfl _ _ _ rfl rfl r2 ?_)
  clear r2
  by_cases hlt : en < c
  · have k1 : ¬ c = en := by omega
    have k2 : ¬ c - en = 0 := by omega
    rw [if_pos hlt] at r3
    go_upto_region 11 with (at_builtin; refine wpList_append_run rfl _ _ 23 rfl _ _ _ rfl rfl r3 ?_)
    clear r3 k1 k2 hlt g1 g2 g2'
    by_cases hz : siz PL ≤ 256
    · have hd : ¬ ((256 : Int) < (siz PL : Nat)) := by omega
      have HZ := hid hz
      clear hz
      go_wp2_with (first | (go_at_call 19; refine KS.mono ?_; clear KS; rintro e w7 ⟨rfl, rfl⟩) | (go_at_call 11; refine KC.mono ?_; clear KC; rintro e w8 ⟨a8, c8, rfl, hc8, hCo, hE8⟩))
      go_ret2
      exact ⟨fun _ => ⟨a8, c8, by rw [HPL.out]; rfl, by rw [HPL.out]; exact hc8, hCo.imp fun x _ hx => Nat.le_trans HE6.out.size hx, HE6.out.trans hE8⟩, fun h => absurd HZ.out h⟩
    · have hd : (256 : Int) < (siz PL : Nat) := by omega
      have HZ := hid hz
      clear hz
      go_wp2_with (first | (go_at_call 19; refine KS.mono ?_; clear KS; rintro e w7 ⟨rfl, rfl⟩))
      go_ret2
      exact ⟨fun h => absurd h HZ.out, fun _ => ⟨none, 0, rfl, Nat.le_refl _, Co.nil _ _ _ _, HE6.out⟩⟩
  · obtain rfl : c = en := by omega
    obtain rfl : n = c := by omega
    rw [if_neg hlt, Nat.sub_self] at r3
    go_upto_region 11 with (at_builtin; refine wpList_append_run rfl _ _ 23 rfl _ _ _ rfl rfl r3 ?_)
    clear r3 hlt g1 g2 g2'
    by_cases hz : siz PL ≤ 256
    · have hd : ¬ ((256 : Int) < (siz PL : Nat)) := by omega
      have HZ := hid hz
      clear hz
      go_wp2_with (first | (go_at_call 19; refine KS.mono ?_; clear KS; rintro e w7 ⟨rfl, rfl⟩) | (go_at_call 11; refine KC.mono ?_; clear KC; rintro e w8 ⟨a8, c8, rfl, hc8, hCo, hE8⟩))
      go_ret2
      exact ⟨fun _ => ⟨a8, c8, by rw [HPL.out]; rfl, by rw [HPL.out]; exact hc8, hCo.imp fun x _ hx => Nat.le_trans HE6.out.size hx, HE6.out.trans hE8⟩, fun h => absurd HZ.out h⟩
    · have hd : (256 : Int) < (siz PL : Nat) := by omega
      have HZ := hid hz
      clear hz
      go_wp2_with (first | (go_at_call 19; refine KS.mono ?_; clear KS; rintro e w7 ⟨rfl, rfl⟩))
      go_ret2
      exact ⟨fun h => absurd h HZ.out, fun _ => ⟨none, 0, rfl, Nat.le_refl _, Co.nil _ _ _ _, HE6.out⟩⟩

end Go.Proofs.YtfabhhmeanpmhaaDoor
