/-
  The program's Put; no statement is proved here.
-/
import Derived.Test.YtfabhhmeanpmhaaDoorRow
import Derived.Test.YtfabhhmeanpmhaaDoorPart
import Derived.Deep.RegionHeld3
import Derived.Deep.Cut
namespace Go.Proofs.YtfabhhmeanpmhaaDoor
open Go.RowKit

/-- The type of part i. -/
def pk (ts : List Ty) (t : Int) (i : Nat) : Nat := ((parts (tyAt ts t)).getD i 0).toNat
/-- A value with another part. -/
def putL (ts : List Ty) (t : Int) (l : List Cl) (i : Nat) (m : List Cl) : List Cl := putIn l m (pb ts t i)

theorem okv_len {ts : List Ty} {d : Nat} {ks : List Int} {l : List Cl} (h : Okv ts d ks l) : l.length = ks.length := by
  cases d with
  | zero => exact h
  | succ d => exact h.1

theorem pk_facts {ts : List Ty} {d q : Nat} {l : List Cl} {i : Nat} (hv : vchk ts d q l = 0) (hi : i < (parts (tyAt ts q)).length) :
    (parts (tyAt ts q)).getD i 0 = (pk ts q i : Nat) ∧ pk ts q i < ts.length ∧ (pb ts q (i + 1) : Int) = pb ts q i + (kinds ts (pk ts q i)).length := by
  obtain ⟨o1, o2, o3, o4, o5, o6⟩ := offs_facts hv hi
  obtain ⟨hbz, hOk⟩ := vchk_zero hv
  obtain ⟨hS, h0, h1⟩ := bad_zero hbz
  have hF := (hS.2.1 q (by omega)).1
  have hmem : (parts (tyAt ts q)).getD i 0 ∈ parts (tyAt ts q) := by rw [show (parts (tyAt ts q)).getD i 0 = (parts (tyAt ts q))[i] by simp [hi]]; exact List.getElem_mem _
  have hb := hF.below _ hmem
  have e1 : (parts (tyAt ts q)).getD i 0 = (pk ts q i : Nat) := by unfold pk; omega
  have hsn := sumWidth_snoc (ms ts) (parts (tyAt ts q)) i hi
  have a1 : offs ts q i = sumWidth (ms ts) ((parts (tyAt ts q)).take i) := rfl
  have a2 : offs ts q (i + 1) = sumWidth (ms ts) ((parts (tyAt ts q)).take (i + 1)) := rfl
  have hk := kinds_len hS.2.1 (pk ts q i + 1) (pk ts q i : Nat) (by omega) (by omega) (by omega)
  rw [e1] at hsn
  refine ⟨e1, by omega, ?_⟩
  have : (M ts (pk ts q i : Nat)).width = (at' (ms ts) (pk ts q i : Nat)).width := rfl
  omega

set_option maxRecDepth 100000 in
set_option maxHeartbeats 400000 in
theorem put_bad (ts : List Ty) (ta : Option Addr) (tn tc : Nat) (htn : ts.length = tn) (hc : tn ≤ tc) (d : Nat) (t i : Int) (a : Option Addr) (l : List Cl) (n c : Nat) (x : Value) (w : World) (hC : Cs d w a l) (hn : l.length = n) (hT : TabC w ta ts) (hG : Gl w) (hb : fchk ts d t l i ≠ 0) :
    Calls Tryd.prog 23 #[.slice ta tn tc, .int .i64 t, .slice a n c, .int .i64 i, x] w (QPost w d [] (fchk ts d t l i)) := by
  have K := find_bad ts ta tn tc htn hc d t i a l n c w hC hn hT hG hb
  have hb2 : (fchk ts d t l i != 0) = true := by simpa using hb
  generalize fchk ts d t l i = er at *
  clear hC hT hG
  go_enter Tryd.func23, Tryd.ntmps23
  go_wp2_with (go_at_call 43; refine K.mono ?_; rintro e w1 ⟨rfl, hE1⟩)
  go_ret2
  exact ⟨none, 0, rfl, Nat.le_refl _, Co.nil _ _ _ _, hE1.trans (Ext.alloc _ _ _)⟩

set_option maxRecDepth 100000 in
set_option maxHeartbeats 400000 in
theorem put_form (ts : List Ty) (ta : Option Addr) (tn tc : Nat) (htn : ts.length = tn) (hc : tn ≤ tc) (d q ii : Nat) (a : Option Addr) (l : List Cl) (n c : Nat) (am : Option Addr) (m : List Cl) (mn mc : Nat) (w : World) (hC : Cs d w a l) (hn : l.length = n) (hM : Cs d w am m) (hmn : m.length = mn) (hT : TabC w ta ts) (hG : Gl w) (hv : vchk ts d q l = 0) (hi : ii < (parts (tyAt ts q)).length) (hb : ¬ OkV ts d (pk ts q ii) m) :
    Calls Tryd.prog 23 #[.slice ta tn tc, .int .i64 q, .slice a n c, .int .i64 ii, .slice am mn mc] w (QPost w d [] 1) := by
  have K := find_ok ts ta tn tc htn hc d q ii a l n c w hC hn hT hG hv hi
  obtain ⟨o1, o2, o3, o4, o5, o6⟩ := offs_facts hv hi
  obtain ⟨p1, p2, p3⟩ := pk_facts hv hi
  obtain ⟨hS, h0, h1⟩ := bad_zero (vchk_zero hv).1
  rw [o1, o2, p1] at K
  have K2 := fun u (hu : Ext [] w u) => test_no (psound_any ts ta tn tc htn hS d (pk ts q ii) am m mn mc u (by omega) (hM.keep0 hu) hmn (hT.tab.keep0 hu)) hb
  generalize pk ts q ii = kp at *
  generalize pb ts q ii = bg at *
  generalize pb ts q (ii + 1) = en at *
  clear hC hT hG hv hi hM hb o1 o2 o3 o4 o5 o6 p1 p2 p3 hS h0 h1
  go_enter Tryd.func23, Tryd.ntmps23
  go_wp2_with (first | (go_at_call 43; refine K.mono ?_; rintro e w1 ⟨rfl, hE1⟩; have HE2 := hid (hE1.trans (Ext.alloc [] w1 (.cells #[.int .i64 kp, .int .i64 (bg : Int), .int .i64 (en : Int)] 72))); clear hE1) | (go_at_call 28; refine (K2 _ HE2.out).mono ?_; rintro e w2 ⟨rfl, hE3⟩))
  go_ret2
  exact ⟨none, 0, rfl, Nat.le_refl _, Co.nil _ _ _ _, HE2.out.trans hE3⟩

theorem put_fin {w w5 w6 : World} {g1 n bg d : Nat} {l m : List Cl} {G1 G2 : Nat → Option Addr × Nat} {cs : List Value} (hn : l.length = n) (hb : bg + m.length ≤ n) (hE5 : Ext [] w w5) (hg1 : w.heap.size ≤ g1) (hg5 : g1 < w5.heap.size)
    (hB1 : Bx (fun b => w.heap.size ≤ b ∧ b ≠ g1) d w5 l G1 n) (hE6 : Ext [] w5 w6) (hB2 : Bx (fun b => w5.heap.size ≤ b) d w6 m G2 m.length)
    (hRw : Rw (w6.setRow g1 cs.toArray) g1 n (putIn l m bg) (fun i => if i < bg then G1 i else if i < bg + m.length then G2 (i - bg) else G1 i) n) (hl : n ≤ 2513169434843) (hrl : ∀ i, i < l.length → Rg (cAt l i)) (hrm : ∀ i, i < m.length → Rg (cAt m i)) :
    Co (fun b => w.heap.size ≤ b) (d + 1) (w6.setRow g1 cs.toArray) (some ⟨g1, 0, none⟩) (putIn l m bg) ∧ Ext [] w (w6.setRow g1 cs.toArray) := by
  have hX : Ext [g1] w6 (w6.setRow g1 cs.toArray) := Ext.setRow _ _ _ _ (by simp)
  have hfin : ∀ (a : Option Addr) (b : List Cl), Co (fun b => w.heap.size ≤ b ∧ b ≠ g1) d w6 a b → Co (fun b => w.heap.size ≤ b) d (w6.setRow g1 cs.toArray) a b := fun a b h => (h.keep hX (by simp)).imp fun b _ hp => hp.1
  have h5 := hE5.size
  refine ⟨co_of_rw hRw (fun i hi => ?_) (by rw [putIn_len (by omega), hn]) hl (fun i hi => ?_) hg1, (hE5.trans hE6).on hX (by simpa using hg1)⟩
  · skip
    by_cases e1 : i < bg
    · rw [putIn_lo (by omega) e1, if_pos e1]
      exact ⟨(hB1 i hi).1, hfin _ _ ((hB1 i hi).2.keep0 hE6)⟩
    · rw [if_neg e1]
      by_cases e2 : i < bg + m.length
      · rw [putIn_mid (by omega) (by omega) e2, if_pos e2]
        exact ⟨(hB2 (i - bg) (by omega)).1, hfin _ _ ((hB2 (i - bg) (by omega)).2.imp fun b _ hp => ⟨by omega, by omega⟩)⟩
      · rw [putIn_hi (by omega) (by omega), if_neg e2]
        exact ⟨(hB1 i hi).1, hfin _ _ ((hB1 i hi).2.keep0 hE6)⟩
  · by_cases e1 : i < bg
    · rw [putIn_lo (by omega) e1]; exact hrl i (by omega)
    · by_cases e2 : i < bg + m.length
      · rw [putIn_mid (by omega) (by omega) e2]; exact hrm _ (by omega)
      · rw [putIn_hi (by omega) (by omega)]; exact hrl i (by omega)

set_option maxRecDepth 100000 in
set_option maxHeartbeats 4000000 in
theorem put_rest (ts : List Ty) (ta : Option Addr) (tn tc : Nat) (htn : ts.length = tn) (hc : tn ≤ tc) (d q ii : Nat) (a : Option Addr) (l : List Cl) (n c : Nat) (am : Option Addr) (m : List Cl) (mn mc : Nat) (w : World) (hC : Cs d w a l) (hn : l.length = n) (hnc : n ≤ c) (hM : Cs d w am m) (hmn : m.length = mn) (hT : TabC w ta ts) (hG : Gl w) (hv : vchk ts d q l = 0) (hi : ii < (parts (tyAt ts q)).length) (hb : OkV ts d (pk ts q ii) m) :
    Calls Tryd.prog 23 #[.slice ta tn tc, .int .i64 q, .slice a n c, .int .i64 ii, .slice am mn mc] w (fun e w' => (siz (putL ts q l ii m) ≤ 256 → QPost w d (putL ts q l ii m) 0 e w') ∧ (¬ siz (putL ts q l ii m) ≤ 256 → QPost w d [] 6 e w')) := by
  have K := find_ok ts ta tn tc htn hc d q ii a l n c w hC hn hT hG hv hi
  obtain ⟨o1, o2, o3, o4, o5, o6⟩ := offs_facts hv hi
  obtain ⟨p1, p2, p3⟩ := pk_facts hv hi
  obtain ⟨hS, h0, h1⟩ := bad_zero (vchk_zero hv).1
  have hlm := okv_len hb.2
  have hsl := (vchk_zero hv).2.1
  have hsm := hb.1
  have htot := putIn_tot (l := l) (m := m) (b := pb ts q ii) (e := pb ts q (ii + 1)) (by omega)
  rw [o1, o2, p1] at K
  have K2 := fun u (hu : Ext [] w u) => test_yes (psound_any ts ta tn tc htn hS d (pk ts q ii) am m mn mc u (by omega) (hM.keep0 hu) hmn (hT.tab.keep0 hu)) hb
  obtain ⟨d', b, o, rfl, rfl, _⟩ := hC.at_ o5
  have hsub := hC.sub (Nat.le_of_lt o3) o4
  have KV := fun u (hu : Ext [] w u) => psize_any (d' + 1) (some ⟨b, o, none⟩) l n c u (hC.keep0 hu) hn
  have KP := fun u (hu : Ext [] w u) => psize_any (d' + 1) (some ⟨b, o + pb ts q ii * 4, none⟩) (partL ts q l ii) (pb ts q (ii + 1) - pb ts q ii) (c - pb ts q ii) u (hsub.keep0 hu) o6
  have KM := fun u (hu : Ext [] w u) => psize_any (d' + 1) am m mn mc u (hM.keep0 hu) hmn
  have KCv := fun u (hu : Ext [] w u) => clone_row d' (some ⟨b, o, none⟩) l n c u (hC.keep0 hu) hn (by omega)
  have KCm := fun u (hu : Ext [] w u) => clone_row d' am m mn mc u (hM.keep0 hu) hmn (by omega)
  have hzz : (siz l : Int) - siz (partL ts q l ii) + siz m = totL (putL ts q l ii m) := by
    have e1 : siz l = totL l := by unfold siz at *; omega
    have e2 : siz m = totL m := by unfold siz at *; omega
    have e3 : totL (partL ts q l ii) ≤ totL l := by
      have : totL (l.take (pb ts q (ii + 1))) ≤ totL l := totL_take_le _ _
      have h2 := (totL_drop (l.take (pb ts q (ii + 1))) (pb ts q ii)).1
      unfold partL; omega
    have e4 : siz (partL ts q l ii) = totL (partL ts q l ii) := by unfold siz at *; omega
    have e5 : totL (putL ts q l ii m) = totL (putIn l m (pb ts q ii)) := rfl
    have e6 : totL (partL ts q l ii) = totL ((l.take (pb ts q (ii + 1))).drop (pb ts q ii)) := rfl
    omega
  have hsz : siz (putL ts q l ii m) = min (totL (putL ts q l ii m)) 257 := rfl
  have hmm : siz m ≤ 256 := hsm
  have hpp : siz (partL ts q l ii) ≤ 257 := by unfold siz; omega
  have hll : siz l ≤ 256 := hsl
  have HRl : Hid (∀ i, i < l.length → Rg (cAt l i)) := fun i hi => hC.rg hi
  have HRm : Hid (∀ i, i < m.length → Rg (cAt m i)) := fun i hi => hM.rg hi
  have HNL : Hid (n ≤ 2513169434843) := by show n ≤ _; rw [← hn]; exact hC.len
  have HPL : Hid (putL ts q l ii m = putIn l m (pb ts q ii)) := rfl
  have HPn : Hid (pb ts q (ii + 1) = pb ts q ii + m.length) := by show _ = _; omega
  have HN := hid hn
  have HMN := hid hmn
  have hpos : 0 < m.length := by omega
  generalize totL (putL ts q l ii m) = tp at *
  generalize siz (putL ts q l ii m) = sp at *
  generalize putL ts q l ii m = PL at *
  generalize partL ts q l ii = pl at *
  generalize siz l = sl at *
  generalize siz m = sm at *
  generalize siz pl = spl at *
  generalize pk ts q ii = kp at *
  generalize pb ts q ii = bg at *
  generalize pb ts q (ii + 1) = en at *
  have h1' : (bg : Int) ≤ en := by omega
  have h2' : (en : Int) ≤ c := by omega
  have h3' : bg < c := by omega
  have h4' : ¬ c = bg := by omega
  have h5' : ¬ c - bg = 0 := by omega
  have hw1 : IntKind.i64.wrap ((sl : Int) - spl) = (sl : Int) - spl := by rw [IntKind.wrap_i64]; omega
  have hw2 : IntKind.i64.wrap ((sl : Int) - spl + sm) = tp := by rw [IntKind.wrap_i64]; omega
  have HLT : Hid (bg < en) := by show bg < en; omega
  have HLE : Hid (en ≤ n) := by show en ≤ n; omega
  have HSZ : Hid (sp = min tp 257) := hsz
  clear hC hT hG hv hi hM hb hsub o1 o2 o3 o4 o5 o6 p1 p2 p3 hS h0 hlm hsl hsm htot hzz hmm hpp hll hsz hn hmn hpos
  go_enter Tryd.func23, Tryd.ntmps23
  go_wp2_with (first | (go_at_call 43; refine K.mono ?_; rintro e w1 ⟨rfl, hE1⟩; have HE2 := hid (hE1.trans (Ext.alloc [] w1 (.cells #[.int .i64 kp, .int .i64 (bg : Int), .int .i64 (en : Int)] 72))); have HP2 : Hid (P3 (w1.alloc (.cells #[.int .i64 kp, .int .i64 (bg : Int), .int .i64 (en : Int)] 72)) w1.heap.size kp bg en) := heap_alloc_new _ _; clear hE1) | (go_at_call 28; refine (K2 _ HE2.out).mono ?_; rintro e w2 ⟨rfl, hE3⟩))
  have hE2 := HE2.out.trans hE3
  have hP2 := HP2.out.keep hE3 (by simp)
  generalize w1.heap.size = pblk at *
  have p0 := hP2.c1
  have p1 := hP2.c2
  clear hE3 HE2 HP2 K K2
  go_region_held3 (fun w' => w'.cell? ⟨pblk, 1, none⟩ = some (.int .i64 (bg : Int)) ∧ w'.cell? ⟨pblk, 2, none⟩ = some (.int .i64 (en : Int)))
    (first | exact ⟨Ext.cell (by (repeat (first | (with_reducible exact Ext.refl [] _) | (with_reducible exact Ext.drew [] _) | (with_reducible assumption) | (with_reducible refine Ext.trans ?_ (Ext.drew [] _)) | (with_reducible refine Ext.trans ?_ (by assumption)) | fail "no chain"))) p0 (by simp), Ext.cell (by (repeat (first | (with_reducible exact Ext.refl [] _) | (with_reducible exact Ext.drew [] _) | (with_reducible assumption) | (with_reducible refine Ext.trans ?_ (Ext.drew [] _)) | (with_reducible refine Ext.trans ?_ (by assumption)) | fail "no chain"))) p1 (by simp)⟩ | go_keep)
    (first | (go_at_call 18; (with_reducible refine Calls.mono (KV _ ?_) ?_); (repeat (first | (with_reducible exact Ext.refl [] _) | (with_reducible exact Ext.drew [] _) | (with_reducible assumption) | (with_reducible refine Ext.trans ?_ (Ext.drew [] _)) | (with_reducible refine Ext.trans ?_ (by assumption)) | fail "no chain")); rintro e wv ⟨rfl, hEv⟩) | (go_at_call 18; (with_reducible refine Calls.mono (KM _ ?_) ?_); (repeat (first | (with_reducible exact Ext.refl [] _) | (with_reducible exact Ext.drew [] _) | (with_reducible assumption) | (with_reducible refine Ext.trans ?_ (Ext.drew [] _)) | (with_reducible refine Ext.trans ?_ (by assumption)) | fail "no chain")); rintro e wm ⟨rfl, hEm⟩) | (go_at_call 18; (with_reducible refine Calls.mono (KP _ ?_) ?_); (repeat (first | (with_reducible exact Ext.refl [] _) | (with_reducible exact Ext.drew [] _) | (with_reducible assumption) | (with_reducible refine Ext.trans ?_ (Ext.drew [] _)) | (with_reducible refine Ext.trans ?_ (by assumption)) | fail "no chain")); rintro e wp ⟨rfl, hEp⟩))
  rename_i hHeld
  obtain ⟨c0, c1⟩ := hHeld
  have HE3 := hid (((hE2.trans (Ext.drew [] w2)).trans hEv).trans (hEp.trans hEm))
  clear hE2 hEv hEp hEm p0 p1 hP2 KV KP KM
  by_cases hbig : (256 : Int) < tp
  · have hd : decide ((256 : Int) < tp) = true := by simpa using hbig
    rw [hd]
    clear KCv KCm c0 c1
    go_wp2_with fail
    go_ret2
    exact ⟨fun h => absurd h (by rw [HSZ.out]; omega), fun _ => ⟨none, 0, rfl, Nat.le_refl _, Co.nil _ _ _ _, HE3.out⟩⟩
  have hd : decide ((256 : Int) < tp) = false := by simpa using hbig
  rw [hd]
  have n2 : (en : Int) ≤ n := by have := HLE.out; omega
  have n3 : bg < n := by have := HLE.out; have := HLT.out; omega
  have n4 : ¬ n = bg := by omega
  have n5 : ¬ n - bg = 0 := by omega
  have K1 := KCv _ HE3.out
  clear KCv
  go_upto_region 9 with (go_at_call 44; refine K1.mono ?_; clear K1; rintro e w5 ⟨g1, G1, rfl, hR1, hB1, hg1, hE5⟩; have hE5' := HE3.out.trans hE5; have r0 := hE5.cell c0 (by simp); have r1 := hE5.cell c1 (by simp); have s0 := (Ext.drew [] w5).cell r0 (by simp); have s1 := (Ext.drew [] w5).cell r1 (by simp); have K2 := KCm _ (hE5'.trans (Ext.drew [] w5)); have HE5 := hid hE5'; have HR1 := hid hR1; have HB1 := hid hB1; have HG1 := hid hg1; clear hE5 hE5' hR1 hB1 hg1 c0 c1 r0 r1)
  have hnm : en - bg = mn := by have := HPn.out; have := HMN.out; omega
  go_region_law (first
    | (refine step_copy_run rfl _ _ 23 23 rfl (.slice (some ⟨g1, bg * 4, none⟩) mn (n - bg)) (.slice (some ⟨g2, 0, none⟩) mn mn) _ (by rfl) (by rfl) (hcp _ _ _) ?_)
    | (go_simp; go_wp2_with (first | (go_at_call 44; refine K2.mono ?_; clear K2; rintro e w6 ⟨g2, G2, rfl, hR2, hB2, hg2, hE6⟩; have t0 := hE6.cell s0 (by simp); have t1 := hE6.cell s1 (by simp); obtain ⟨cs, hcp, hRw⟩ := put_row (b := bg) ((HR1.out.keep (Ext.drew [] _) (by simp)).keep hE6 (by simp)) (by rw [HMN.out]; exact hR2) HN.out (by have := HPn.out; have := HLE.out; omega); rw [HMN.out] at hcp; have HRw := hid hRw; have HB2 := hid hB2; have HG2 := hid hg2; have HE6 := hid hE6; clear hRw hB2 hg2 hE6 hR2))))
  all_goals
    go_wp2_with fail
    go_ret2
    have hg5 : g1 < w5.heap.size := by obtain ⟨c1, h1, _⟩ := HR1.out; exact lt_of_heap h1
    obtain ⟨f1, f2⟩ := put_fin HN.out (by have := HPn.out; have := HLE.out; omega) (HE5.out.trans (Ext.drew [] _)) (Nat.le_trans HE3.out.size HG1.out) (by simpa using hg5)
      (fun i hi => ⟨(HB1.out i hi).1, ((HB1.out i hi).2.imp fun b _ hp => ⟨Nat.le_trans HE3.out.size hp.1, hp.2⟩).keep0 (Ext.drew [] _)⟩) HE6.out (fun i hi => ⟨(HB2.out i (by rw [← HMN.out]; exact hi)).1, (HB2.out i (by rw [← HMN.out]; exact hi)).2.imp fun b _ hp => hp.1⟩) HRw.out HNL.out HRl.out HRm.out
    refine ⟨fun _ => ⟨some ⟨g1, 0, none⟩, n, ?_, ?_, ?_, f2⟩, fun h => absurd (by rw [HSZ.out]; omega) h⟩
    · rw [HPL.out, putIn_len (by have := HPn.out; have := HLE.out; have := HN.out; omega), HN.out]; rfl
    · rw [HPL.out, putIn_len (by have := HPn.out; have := HLE.out; have := HN.out; omega), HN.out]; exact Nat.le_refl _
    · rw [HPL.out]; exact f1

end Go.Proofs.YtfabhhmeanpmhaaDoor
