/-
  WWri: joined by program; no statement is proved here.
-/
import Derived.Test.YtgglobkaacdnkaaGreatDoorZMJ
import Derived.Test.YtgglobkaacdnkaaGreatDoorZME
/-
  The walk through MemoryWrites; no statement is proved here.
-/
namespace Go.Proofs.YtgglobkaacdnkaaGreatDoor
open Go.RowKit

/-- A list of words of one's own, told where it lies. -/
theorem own_us {w w1 : World} {v : Value} {l : List Int} (h : w1.ownsRow w.heap.size 27 1 v l.length (lU l)) : ∃ va c, v = .slice va l.length c ∧ Us w1 va l ∧ ∀ ad, va = some ad → w.heap.size ≤ ad.block ∧ ad.block < w1.heap.size := by
  obtain ⟨va, c, rfl, _⟩ := own_slice h
  exact ⟨va, c, rfl, Co.own_vs h, fun ad e => own_lt h ad.block (by rw [e]; rfl)⟩
theorem usF {B : Nat → Prop} {w w' : World} {a : Option Addr} {xs : List Int} (h : Us w a xs) (e : Fx B w w') (hs : ∀ ad, a = some ad → ¬ B ad.block) : Us w' a xs := by
  rcases h with h | ⟨b, o, rfl, hc⟩
  · exact .inl h
  · refine .inr ⟨b, o, rfl, fun j hj => ?_⟩
    have h1 := hc j hj
    rw [List.getElem?_eq_getElem hj] at h1 ⊢
    exact e.cell h1 (hs ⟨b, o, none⟩ rfl)

set_option maxRecDepth 100000 in
set_option maxHeartbeats 2000000 in
theorem writesWalk (x pc A i to v : Int) (hA : I64 A) (hv : 0 ≤ v ∧ v < 18446744073709551616) (a : Option Addr) (n c : Nat) (S : List Oq) (w : World) (hG : Gl w) (hS : Scr w a S) (hn : S.length = n) (_hto : I64 to) :
    Calls Tryz.prog 4 #[.int .i64 x, .int .i64 pc, .slice a n c, .int .i64 A, .int .i64 i, .int .i64 to, .int .u64 v] w (SayPost w (.bool true)) := by
  have K := grown_any w hG x pc a n c S hS hn
  have hSV : ∀ q ∈ S, 0 ≤ q.V ∧ q.V < 18446744073709551616 := fun q hq => by
    obtain ⟨k, hk, rfl⟩ := List.mem_iff_getElem.1 hq
    rcases hS.at_ with e | ⟨b, o, _, hsc⟩
    · rw [e] at hk; simp at hk
    · obtain ⟨_, _, _, _, _, _, hop, _⟩ := hsc k hk
      exact hop.hV
  have hJ : Jd (grownM x pc S).1 [] := grow_jd S hSV (jd_new (by unfold pgF; split <;> omega) pc)
  have HG := hid hG
  clear hS hn hSV hG
  generalize grownM x pc S = R at *
  obtain ⟨M, L⟩ := R
  simp only at hJ
  go_enter Tryz.func4, Tryz.ntmps4
  go_wp2_with fail
  refine K.mono ?_
  clear K
  rintro e w1 ⟨p, gv, rfl, hgd, m0, hm0, hgi⟩
  obtain ⟨Z, hM, hZ, hgv, hE1⟩ := hgd
  simp only at hM hgv hgi
  obtain ⟨va, vc, rfl, hVI, hva⟩ := own_is hgv
  have hk := hgi.km
  have hok := hgi.ok
  have hln := hgi.ln
  simp only at hk hok hln
  have hat := adrF_i64 hok hA
  have hM' := hM.there
  generalize hY : (fun k => Z k ∧ k < w1.heap.size) = Y at hM'
  have hYs : ∀ k, Y k → w.heap.size ≤ k ∧ k < w1.heap.size ∧ (Value.slice va L.length vc).ownBlock ≠ some k := fun k hk => by rw [← hY] at hk; exact ⟨(hZ k hk.1).1, hk.2, (hZ k hk.1).2⟩
  -- the calls
  have HAw : Hid (∀ u, Ext [] w u → Calls Tryz.prog 17 #[] u (SayPost u (.bool true))) := fun u hu => mawake_any u (HG.out.keep0 hu)
  have HAd : Hid (∀ u x, Ext [] w1 u → Calls Tryz.prog 23 #[.slice va L.length vc, .int .i64 x] u fun e w' => e = .returned (.int .i64 (adrF L x)) ∧ w' = u) := fun u x hu => address_any u va _ vc L (hVI.keep0 (co_ext hu)) rfl (by omega) x
  have HAll : Hid (∀ u M' V, Mw u p M' V → Mk M' 2 → Jd M' [] → Calls Tryz.prog 24 #[.pointer (some ⟨p, 0, none⟩), .int .i64 (adrF L A)] u (Al9Post u (allM M' (adrF L A)))) := fun u M' V hm hk' hj => mall_any hm hk' hj _ hat
  have HPt : Hid (∀ u, Ext [] w1 u → Calls Tryz.prog 11 #[.pointer (some ⟨p, 0, none⟩), .int .i64 (adrF L A)] u (PtPost u (fndM M (adrF L A)))) := fun u hu => mptrs_any (hM'.keep0 hu) hk _ hat
  have HSet : Hid (∀ u y, 0 ≤ y ∧ y < 18446744073709551616 → Ext [] w1 u → Calls Tryz.prog 14 #[.pointer (some ⟨p, 0, none⟩), .int .i64 (adrF L A), .int .i64 i, .int .u64 y] u (MPost u p (setM M (adrF L A) i y).1 Y (.int .i64 (setM M (adrF L A) i y).2))) := fun u y hy hu => mset_any (hM'.keep0 hu) hk _ i y hat hy
  have HM := hid hM'
  have HK := hid hk
  have HJ := hid hJ
  have HE1 := hid hE1
  have HYs := hid hYs
  clear hM hZ hgv hE1 hVI hva hk hok hln hgi hM' hY hYs hJ
  have HAt := hid hat
  generalize hatE : adrF L A = at_ at *
  have HAdA := hid (fun u hu => HAd.out u A hu)
  rw [hatE] at HAdA
  clear hatE
  go_wp2_with fail
  refine (HAw.out w1 HE1.out).mono ?_
  rintro e w2 ⟨rfl, hE2⟩
  have HE2 := hid hE2
  have K3 := HAdA.out w2 hE2
  clear hE2 HAw HAdA
  go_wp2_with fail
  refine met K3 ?_
  clear K3
  have K4 := HAll.out w2 M Y (HM.out.keep0 HE2.out) HK.out HJ.out
  go_wp2_with fail
  refine K4.mono ?_
  clear K4
  rintro e w3 ⟨v3, rfl, ho3, hE3⟩
  obtain ⟨ba3, bc3, rfl, hU3, hb3⟩ := own_us ho3
  have HE3 := hid (HE2.out.trans hE3)
  have HU3 := hid hU3
  have HB3 : Hid (∀ ad, ba3 = some ad → w1.heap.size ≤ ad.block) := fun ad e => Nat.le_trans HE2.out.size (hb3 ad e).1
  have K5 := HPt.out w3 HE3.out
  clear ho3 hE3 hU3 hb3 HPt HE2
  unfold allM
  cases hf : fndM M at_ with
  | none =>
    rw [hf] at K5
    simp only [List.length_nil]
    have hs0 : setM M at_ i v = (M, 4) := by unfold setM; rw [hf]
    go_wp2_with fail
    refine K5.mono ?_
    clear K5
    rintro e w4 ⟨hE4, rfl⟩
    have K6 := HSet.out w4 v hv (HE3.out.trans hE4)
    rw [hs0] at K6
    have HE4 := hid (HE3.out.trans hE4)
    clear hE4 HSet
    go_wp2_with fail
    refine K6.mono ?_
    clear K6
    rintro e w5 ⟨rfl, _, hx⟩
    have HF : Hid (Ext [] w w5) := Fx.on (HE1.out.trans HE4.out) hx (fun k hk => (HYs.out k hk).1)
    clear hx
    go_wp2_with fail
    go_ret
    exact ⟨rfl, HF.out⟩
  | some o =>
    rw [hf] at K5
    obtain ⟨ps, hps⟩ := ptr9 HJ.out HK.out.ob hf
    have HPs := hid hps
    have HF := hid hf
    have HFa := hid (fun y hy => set_facts HJ.out hf i y hy)
    have hpt := hps.pt
    have hnl : o.sl.length = ps.length := by rw [hps.sl, slotsF_len]
    have hps8 : ps.length ≤ 8192 := by
      obtain ⟨qs, q1, _, q3, _⟩ := HJ.out.sl at_ o (fnd_ob hf).1
      rw [← hnl, q1, slotsF_len]; exact q3
    have hgs : o.sl.getD i.toNat 0 = -1 ∨ i < 0 ∨ (ps.length : Int) ≤ i ∨ ps.getD i.toNat false = true := by
      by_cases h1 : i < 0
      · exact .inr (.inl h1)
      · by_cases h2 : (ps.length : Int) ≤ i
        · exact .inr (.inr (.inl h2))
        · rcases slotsF_val ps 0 i.toNat (by omega) with q | q
          · left; rw [hps.sl]; exact q.1
          · exact .inr (.inr (.inr q.1))
    have HGs := hid hgs
    clear hf hps hgs
    simp only
    have HNl := hid hnl
    simp only [wordsF_len]
    rw [hnl]
    unfold PtPost at K5
    simp only [hpt] at K5
    clear hpt hnl
    have HU3 : Hid (Us w3 ba3 (wordsF M at_ ps.length)) := by have := HU3.out; unfold allM at this; rw [HF.out] at this; simp only at this; rw [HNl.out] at this; exact this
    go_wp2_with fail
    refine K5.mono ?_
    clear K5
    rintro e w4 ⟨hE4, g4, rfl, hr4, hg4⟩
    have HP4 : Hid (∀ u, Fx Y w4 u → ∀ k, k < ps.length → u.cell? ⟨g4, k, none⟩ = some (.bool (ps.getD k false))) := fun u hu k hk => by
      have h1 := hu.keep hr4 (fun q => by have := (HYs.out _ q).2.1; have := HE3.out.size; omega)
      rw [cell_of_row _ _ _ _ _ _ h1]
      simp [hk]
    have HB4 : Hid (∀ u, Fx Y w4 u → Us u ba3 (wordsF M at_ ps.length)) := fun u hu => usF (Co.Vs.keep0 HU3.out (co_ext hE4)) hu (fun ad e q => by have := (HYs.out _ q).2.1; have := HB3.out ad e; omega)
    have HE4 := hid (HE3.out.trans hE4)
    have HSet := hid (fun y hy => HSet.out w4 y hy HE4.out)
    have HAf : Hid (∀ y, 0 ≤ y ∧ y < 18446744073709551616 → ∀ w5, MPost w4 p (setM M at_ i y).1 Y (.int .i64 (setM M at_ i y).2) (.returned (.int .i64 (setM M at_ i y).2)) w5 → Calls Tryz.prog 24 #[.pointer (some ⟨p, 0, none⟩), .int .i64 at_] w5 (Al9Post w5 (allM (setM M at_ i y).1 at_)) ∧ Ext [] w w5) := fun y hy w5 hp => ⟨HAll.out w5 _ _ hp.2.1 (HK.out.set at_ i y).1 (HJ.out.set at_ i y hy), Fx.on (HE1.out.trans HE4.out) hp.2.2 (fun k hk => (HYs.out k hk).1)⟩
    have HAdT := hid (HAd.out w4 to HE4.out)
    clear hE4 hr4 hg4 HU3 HB3 HE3 HAll HAd
    by_cases h1 : i < 0
    · have d1 : decide (i ≥ 0) = false := by simp; omega
      have d1' : decide (i < 0) = true := by simpa using h1
      have hy := hv
      have hres : (setM M at_ i v).1 = M ∧ (setM M at_ i v).2 = 5 := by
        have := HFa.out v hv
        unfold setM
        rw [HF.out]
        simp only
        rw [if_pos (.inl h1)]
        exact ⟨rfl, rfl⟩
      obtain ⟨hr1, hr2⟩ := hres
      have K6 := HSet.out v hy
      rw [hr1, hr2] at K6
      go_wp2_with fail
      refine K6.mono ?_
      clear K6
      rintro e w5 hp
      have he := hp.1
      subst he
      have h7 := HAf.out v hy w5
      rw [hr1, hr2] at h7
      obtain ⟨K7, hE5⟩ := h7 hp
      have HB5 := hid (HB4.out w5 hp.2.2)
      have HP5 := hid (HP4.out w5 hp.2.2)
      have HE5 := hid hE5
      clear hp hE5 h7 HB4 HP4 HSet HAf HAdT
      unfold allM at K7
      rw [HF.out] at K7
      simp only at K7
      rw [HNl.out] at K7
      go_wp2_with fail
      refine K7.mono ?_
      clear K7
      rintro e w6 ⟨v6, rfl, ho6, hE6⟩
      obtain ⟨aa6, ac6, rfl, hU6, _⟩ := own_us ho6
      simp only [wordsF_len]
      have K8 := sameWords_true ba3 aa6 ps.length bc3 ac6 (wordsF M at_ ps.length) w6 (Co.Vs.keep0 HB5.out (co_ext hE6)) hU6 (wordsF_len _ _ _) (by omega)
      have HE6 := hid (HE5.out.trans hE6)
      have HP6 : Hid (∀ k, k < ps.length → w6.cell? ⟨g4, k, none⟩ = some (.bool (ps.getD k false))) := fun k hk => hE6.cell (HP5.out k hk) (by simp)
      clear ho6 hU6 hE6 HB5 HP5
      go_wp2_with fail
      refine K8.mono ?_
      clear K8
      rintro e w7 ⟨rfl, hE7⟩
      have HE7 := hid (HE6.out.trans hE7)
      clear hE7
      go_wp2_with fail
      go_ret
      exact ⟨rfl, HE7.out⟩
    · have d1 : decide (i ≥ 0) = true := by simp; omega
      have d1' : decide (i < 0) = false := by simpa using h1
      by_cases h2 : (ps.length : Int) ≤ i
      · have d2 : decide (i < (ps.length : Int)) = false := by simp; omega
        have d2' : decide (i ≥ (ps.length : Int)) = true := by simpa using h2
        have hy := hv
        have hres : (setM M at_ i v).1 = M ∧ (setM M at_ i v).2 = 5 := by
          unfold setM
          rw [HF.out]
          simp only
          rw [if_pos (.inr (by rw [HNl.out]; exact h2))]
          exact ⟨rfl, rfl⟩
        obtain ⟨hr1, hr2⟩ := hres
        have K6 := HSet.out v hy
        rw [hr1, hr2] at K6
        go_wp2_with fail
        refine K6.mono ?_
        clear K6
        rintro e w5 hp
        have he := hp.1
        subst he
        have h7 := HAf.out v hy w5
        rw [hr1, hr2] at h7
        obtain ⟨K7, hE5⟩ := h7 hp
        have HB5 := hid (HB4.out w5 hp.2.2)
        have HP5 := hid (HP4.out w5 hp.2.2)
        have HE5 := hid hE5
        clear hp hE5 h7 HB4 HP4 HSet HAf HAdT
        unfold allM at K7
        rw [HF.out] at K7
        simp only at K7
        rw [HNl.out] at K7
        go_wp2_with fail
        refine K7.mono ?_
        clear K7
        rintro e w6 ⟨v6, rfl, ho6, hE6⟩
        obtain ⟨aa6, ac6, rfl, hU6, _⟩ := own_us ho6
        simp only [wordsF_len]
        have K8 := sameWords_true ba3 aa6 ps.length bc3 ac6 (wordsF M at_ ps.length) w6 (Co.Vs.keep0 HB5.out (co_ext hE6)) hU6 (wordsF_len _ _ _) (by omega)
        have HE6 := hid (HE5.out.trans hE6)
        have HP6 : Hid (∀ k, k < ps.length → w6.cell? ⟨g4, k, none⟩ = some (.bool (ps.getD k false))) := fun k hk => hE6.cell (HP5.out k hk) (by simp)
        clear ho6 hU6 hE6 HB5 HP5
        go_wp2_with fail
        refine K8.mono ?_
        clear K8
        rintro e w7 ⟨rfl, hE7⟩
        have HE7 := hid (HE6.out.trans hE7)
        clear hE7
        go_wp2_with fail
        go_ret
        exact ⟨rfl, HE7.out⟩
      · have d2 : decide (i < (ps.length : Int)) = true := by simp; omega
        have d2' : decide (i ≥ (ps.length : Int)) = false := by simpa using h2
        obtain ⟨ii, rfl⟩ : ∃ ii : Nat, i = ii := ⟨i.toNat, by omega⟩
        have hil : ii < ps.length := by omega
        cases hpi : ps.getD ii false
        · have hy := hv
          have hci := HP4.out w4 (Fx.refl _ _) ii hil
          rw [hpi] at hci
          have hf0 : (setM M at_ (ii : Int) v).2 = 0 := by
            by_cases e : (setM M at_ (ii : Int) v).2 = 0
            · exact e
            · rcases ((HFa.out v hv).1 e).2 with q | q
              · have := HNl.out; omega
              · rcases HGs.out with r | r | r | r
                · exact absurd r q.2.2.2
                · omega
                · omega
                · simp only [Int.toNat_natCast] at r; rw [hpi] at r; cases r
          have K6 := HSet.out v hy
          obtain ⟨_, hfd2, hwi, hwo⟩ := (HFa.out v hy).2 hf0
          have hj2 := HJ.out.set at_ (ii : Int) v hy
          have hk2 := (HK.out.set at_ (ii : Int) v).1
          have HAf2 := hid (HAf.out v hy)
          generalize hM2 : (setM M at_ (ii : Int) v).1 = M2 at *
          rw [hf0] at K6 HAf2
          obtain ⟨ps2, hps2⟩ := ptr9 hj2 hk2.ob hfd2
          have hpe : ps2 = ps := by rw [← hps2.pt, HPs.out.pt]
          subst hpe
          go_wp2_with fail
          refine K6.mono ?_
          clear K6
          rintro e w5 hp
          have he := hp.1
          subst he
          obtain ⟨K7, hE5⟩ := HAf2.out w5 hp
          have HB5 := hid (HB4.out w5 hp.2.2)
          have HP5 := hid (HP4.out w5 hp.2.2)
          have HE5 := hid hE5
          have HM5 := hid hp.2.1
          clear hp hE5 HAf2 HB4 HP4 HSet HAf
          unfold allM at K7
          rw [hfd2] at K7
          simp only at K7
          rw [HNl.out] at K7
          go_wp2_with fail
          refine K7.mono ?_
          clear K7
          rintro e w6 ⟨v6, rfl, ho6, hE6⟩
          obtain ⟨aa6, ac6, rfl, hU6, _⟩ := own_us ho6
          simp only [wordsF_len]
          obtain ⟨ab, ao, rfl, hac⟩ := Us.at_ hU6 (by intro e; have h9 := congrArg List.length e; rw [wordsF_len] at h9; simp only [List.length_nil] at h9; omega)
          obtain ⟨bb, bo, rfl, hbc⟩ := Us.at_ (show Us w6 ba3 (wordsF M at_ ps2.length) from Co.Vs.keep0 HB5.out (co_ext hE6)) (by intro e; have h9 := congrArg List.length e; rw [wordsF_len] at h9; simp only [List.length_nil] at h9; omega)
          simp only [wordsF_len] at hac hbc
          have hai := hac ii hil
          rw [wordsF_get _ _ hil, hwi] at hai
          have HAc : Hid (∀ u, Ext [] w6 u → ∀ k, k < ps2.length → u.cell? ⟨ab, ao + k, none⟩ = some (.int .u64 (wd M2.H (at_ + 8 * (k : Int)))) ∧ u.cell? ⟨bb, bo + k, none⟩ = some (.int .u64 (wd M.H (at_ + 8 * (k : Int)))) ∧ u.cell? ⟨g4, k, none⟩ = some (.bool (ps2.getD k false))) := fun u hu k hk => by
            have h1 := hu.cell (hac k hk) (by simp)
            have h2 := hu.cell (hbc k hk) (by simp)
            rw [wordsF_get _ _ hk] at h1 h2
            exact ⟨h1, h2, hu.cell (hE6.cell (HP5.out k hk) (by simp)) (by simp)⟩
          have HWo : Hid (∀ k : Nat, k < ps2.length → (k : Int) ≠ ii → wd M2.H (at_ + 8 * (k : Int)) = wd M.H (at_ + 8 * (k : Int))) := fun k hk hne => hwo k (by rw [HNl.out]; exact hk) hne
          have HSt : Hid (∀ k, k < ps2.length → refsF M2 ((Co.slV M2.G o.nd).take (cntT (ps2.take (k + 1)))) = refsF M2 ((Co.slV M2.G o.nd).take (cntT (ps2.take k))) ++ if ps2.getD k false = true ∧ wd M2.H (at_ + 8 * (k : Int)) ≠ 0 then [wd M2.H (at_ + 8 * (k : Int))] else []) := fun k hk => refs_step hps2 hk
          have HLe : Hid (∀ k, (refsF M2 ((Co.slV M2.G o.nd).take (cntT (ps2.take k)))).length ≤ 8192) := fun k => by
            have h1 := refsF_len M2 ((Co.slV M2.G o.nd).take (cntT (ps2.take k)))
            have h2 := cntT_le (ps2.take k)
            simp only [List.length_take] at h1 h2
            omega
          have HBd : Hid (∀ k, k < ps2.length → ps2.getD k false = true → wd M2.H (at_ + 8 * (k : Int)) ≠ 0 → 0 < wd M2.H (at_ + 8 * (k : Int)) ∧ wd M2.H (at_ + 8 * (k : Int)) ≤ 1000000) := fun k hk hp h0 => by
            obtain ⟨q1, q2⟩ := hps2.wo k hk hp
            refine q2 (fun e => h0 ?_)
            rw [q1, e]; rfl
          have HEnd : Hid (refsF M2 ((Co.slV M2.G o.nd).take (cntT (ps2.take ps2.length))) = refsM M2 o.nd) := by
            show _ = refsF M2 (Co.slV M2.G o.nd)
            rw [List.take_of_length_le (Nat.le_refl ps2.length), List.take_of_length_le (by rw [hps2.ln]; exact Nat.le_refl _)]
          have HIn : Hid (∀ u, Ext [] w5 u → Calls Tryz.prog 12 #[.pointer (some ⟨p, 0, none⟩), .int .i64 at_] u (InPost u M2 at_)) := fun u hu => minfo_any (HM5.out.keep0 hu) hk2 at_ HAt.out
          have HFd2 := hid hfd2
          have hj3 : infV M2.H at_ (fnd M2.H at_) = infV M2.H at_ (fnd M2.H at_) := rfl
          have HIv : Hid (∃ x s t, infV M2.H at_ (fnd M2.H at_) = .tuple #[obV x s t, .int .i64 0]) := by
            obtain ⟨t3, q3⟩ := hj2.o3 at_ o (fnd_ob hfd2).1
            obtain ⟨k3, j3, g1, g2, g3⟩ := q3.found hj2.hv
            rw [g1]
            unfold infV
            simp only
            rw [if_pos g2]
            exact ⟨_, _, _, rfl⟩
          have HE6 := hid hE6
          have HE6w := hid (HE5.out.trans hE6)
          clear ho6 hU6 hE6 HB5 HP5 hac hbc hwi hwo hps2 hj2 hk2 hfd2 hM2 hf0 hj3 HM5 HGs HPs HFa HF
          go_wp2_with fail
          have hdd : decide (ps2.length ≤ ii) = false := by simp; omega
          try simp only [hdd]
          clear hdd
          go_loopw [24, 25] (fun rv q wr => ∃ (k : Nat), q = .int .i64 k ∧ k ≤ ps2.length ∧ (∃ ad m d, rv = .slice ad m d) ∧ wr.ownsRow w6.heap.size 3 1 rv (refsF M2 ((Co.slV M2.G o.nd).take (cntT (ps2.take k)))).length (lI (refsF M2 ((Co.slV M2.G o.nd).take (cntT (ps2.take k))))) ∧ Ext [] w6 wr) (fun _ q _ => (ps2.length - (intOf q)).toNat)
          case atStart => exact ⟨0, rfl, Nat.zero_le _, ⟨_, _, _, rfl⟩, own_nil _ _ _ _, Ext.refl _ _⟩
          case round =>
            obtain ⟨k, rfl, hk, ⟨ad, m, d, rfl⟩, hO, hE⟩ := hrel
            have HO := hid hO
            have HE := hid hE
            by_cases hlt : k < ps2.length
            · obtain ⟨ck, bk, pk⟩ := HAc.out wr hE k hlt
              have hS := HSt.out k hlt
              have hW := HWo.out k hlt
              have hB := HBd.out k hlt
              have hle := HLe.out k
              clear hO hE
              generalize wd M2.H (at_ + 8 * (k : Int)) = ak at *
              generalize wd M.H (at_ + 8 * (k : Int)) = bk0 at *
              generalize hpk : ps2.getD k false = pp at *
              by_cases hki : (k : Int) = ii
              · have b1 : ((k : Int) != (ii : Int)) = false := by simpa using hki
                clear hW hki
                cases pp
                · rw [if_neg (by simp), List.append_nil] at hS
                  have HS := hid hS
                  clear hS hB hle
                  go_wp2_with fail
                  go_quiet (fail)
                  go_wp2_with fail
                  go_roundw
                  case rel => exact ⟨k + 1, by go_num, by omega, ⟨_, _, _, rfl⟩, by rw [HS.out]; exact own_keep0 HO.out (Ext.drewN _ _ _), HE.out.trans (Ext.drewN _ _ _)⟩
                  case measure => simp [intOf]; omega
                · by_cases h0 : ak = 0
                  · rw [if_neg (fun q => q.2 h0), List.append_nil] at hS
                    have HS := hid hS
                    clear hS hB hle
                    subst h0
                    go_wp2_with fail
                    go_quiet (fail)
                    go_wp2_with fail
                    go_roundw
                    case rel => exact ⟨k + 1, by go_num, by omega, ⟨_, _, _, rfl⟩, by rw [HS.out]; exact own_keep0 HO.out (Ext.drewN _ _ _), HE.out.trans (Ext.drewN _ _ _)⟩
                    case measure => simp [intOf]; omega
                  · rw [if_pos ⟨rfl, h0⟩] at hS
                    obtain ⟨hb1, hb2⟩ := hB rfl h0
                    have b2 : (ak != 0) = true := by simpa using h0
                    have hwr : IntKind.i64.wrap ak = ak := by rw [IntKind.wrap_i64]; omega
                    have HApp : Hid (∀ m9, ∃ v' w3, (Builtin.append_ #[32, 32] 32 #[.slice ad m d, .slice (some ⟨(wr.drewN m9).heap.size, 0, none⟩) 1 1]).run Tryz.prog ((wr.drewN m9).alloc (.cells #[.int .i64 ak] 3)) = .ok v' w3 ∧ (∃ a2 n2 c2, v' = .slice a2 n2 c2) ∧ Hid (w3.ownsRow w6.heap.size 3 1 v' (refsF M2 ((Co.slV M2.G o.nd).take (cntT (ps2.take (k + 1))))).length (lI (refsF M2 ((Co.slV M2.G o.nd).take (cntT (ps2.take (k + 1)))))) ∧ Ext [] w6 w3)) := fun m9 => by
                      obtain ⟨v', w3, hr, ho2, hE2⟩ := app_int w6 (wr.drewN m9) (HE.out.trans (Ext.drewN _ _ _)) (.slice ad m d) _ (own_keep0 HO.out (Ext.drewN _ _ _)) ak 32 (by omega)
                      obtain ⟨a2, c2, e, _⟩ := own_slice ho2
                      exact ⟨v', w3, hr, ⟨_, _, _, e⟩, by rw [hS]; exact ho2, hE2⟩
                    clear hS hB hle HO HE
                    go_wp2_with fail
                    go_quiet (fail)
                    obtain ⟨v', w3, hr, ⟨a2, n2, c2, rfl⟩, HO2⟩ := HApp.out nq
                    clear HApp
                    go_wp2_with (first | (at_builtin; refine wpList_append_run rfl _ _ 32 rfl _ _ _ rfl rfl hr ?_) | fail "no arm")
                    go_roundw
                    case rel =>
                      first | exact ⟨k + 1, by go_num, by omega, ⟨_, _, _, rfl⟩, HO2.out.1, HO2.out.2⟩ | (refine ⟨_, _, _, _, _, _, _, _, _, _, _, _, _, _, _, _, _, _, _, _, _, _, _, _, _, _, _, _, _, _, _, _, _, _, _, _, _, _, _, _, _, _, ?_, rfl⟩; exact ⟨k + 1, by go_num, by omega, ⟨_, _, _, rfl⟩, HO2.out.1, HO2.out.2⟩)
                    case measure => simp [intOf]; omega
              · have b1 : ((k : Int) != (ii : Int)) = true := by simpa using hki
                obtain rfl := hW hki
                have b3 : (ak != ak) = false := by simp
                clear hW hki
                cases pp
                · rw [if_neg (by simp), List.append_nil] at hS
                  have HS := hid hS
                  clear hS hB hle
                  go_wp2_with fail
                  go_quiet (fail)
                  go_wp2_with fail
                  go_roundw
                  case rel => exact ⟨k + 1, by go_num, by omega, ⟨_, _, _, rfl⟩, by rw [HS.out]; exact own_keep0 HO.out (Ext.drewN _ _ _), HE.out.trans (Ext.drewN _ _ _)⟩
                  case measure => simp [intOf]; omega
                · by_cases h0 : ak = 0
                  · rw [if_neg (fun q => q.2 h0), List.append_nil] at hS
                    have HS := hid hS
                    clear hS hB hle
                    subst h0
                    go_wp2_with fail
                    go_quiet (fail)
                    go_wp2_with fail
                    go_roundw
                    case rel => exact ⟨k + 1, by go_num, by omega, ⟨_, _, _, rfl⟩, by rw [HS.out]; exact own_keep0 HO.out (Ext.drewN _ _ _), HE.out.trans (Ext.drewN _ _ _)⟩
                    case measure => simp [intOf]; omega
                  · rw [if_pos ⟨rfl, h0⟩] at hS
                    obtain ⟨hb1, hb2⟩ := hB rfl h0
                    have b2 : (ak != 0) = true := by simpa using h0
                    have hwr : IntKind.i64.wrap ak = ak := by rw [IntKind.wrap_i64]; omega
                    have HApp : Hid (∀ m9, ∃ v' w3, (Builtin.append_ #[32, 32] 32 #[.slice ad m d, .slice (some ⟨(wr.drewN m9).heap.size, 0, none⟩) 1 1]).run Tryz.prog ((wr.drewN m9).alloc (.cells #[.int .i64 ak] 3)) = .ok v' w3 ∧ (∃ a2 n2 c2, v' = .slice a2 n2 c2) ∧ Hid (w3.ownsRow w6.heap.size 3 1 v' (refsF M2 ((Co.slV M2.G o.nd).take (cntT (ps2.take (k + 1))))).length (lI (refsF M2 ((Co.slV M2.G o.nd).take (cntT (ps2.take (k + 1)))))) ∧ Ext [] w6 w3)) := fun m9 => by
                      obtain ⟨v', w3, hr, ho2, hE2⟩ := app_int w6 (wr.drewN m9) (HE.out.trans (Ext.drewN _ _ _)) (.slice ad m d) _ (own_keep0 HO.out (Ext.drewN _ _ _)) ak 32 (by omega)
                      obtain ⟨a2, c2, e, _⟩ := own_slice ho2
                      exact ⟨v', w3, hr, ⟨_, _, _, e⟩, by rw [hS]; exact ho2, hE2⟩
                    clear hS hB hle HO HE
                    go_wp2_with fail
                    go_quiet (fail)
                    obtain ⟨v', w3, hr, ⟨a2, n2, c2, rfl⟩, HO2⟩ := HApp.out nq
                    clear HApp
                    go_wp2_with (first | (at_builtin; refine wpList_append_run rfl _ _ 32 rfl _ _ _ rfl rfl hr ?_) | fail "no arm")
                    go_roundw
                    case rel =>
                      first | exact ⟨k + 1, by go_num, by omega, ⟨_, _, _, rfl⟩, HO2.out.1, HO2.out.2⟩ | (refine ⟨_, _, _, _, _, _, _, _, _, _, _, _, _, _, _, _, _, _, _, _, _, _, _, _, _, _, _, _, _, _, _, _, _, _, _, _, _, _, _, _, _, _, ?_, rfl⟩; exact ⟨k + 1, by go_num, by omega, ⟨_, _, _, rfl⟩, HO2.out.1, HO2.out.2⟩)
                    case measure => simp [intOf]; omega
            · obtain rfl : k = ps2.length := by omega
              clear hO hE
              have hO2 := HO.out
              rw [HEnd.out] at hO2
              obtain ⟨ra9, rc9, hsl, hI9, _⟩ := own_is hO2
              simp only [Value.slice.injEq] at hsl
              obtain ⟨rfl, rfl, rfl⟩ := hsl
              have HI9 := hid hI9
              have K9 := HIn.out wr (HE6.out.trans HE.out)
              unfold InPost at K9
              rw [HFd2.out] at K9
              simp only at K9
              obtain ⟨xx, ss, tt, hiv⟩ := HIv.out
              have HEw := hid (HE6w.out.trans HE.out)
              clear hO2 hI9 HIn HO HE
              go_wp2_with fail
              refine K9.mono ?_
              clear K9
              rintro e w9 ⟨hE9, v9, x9, s9, t9, er9, rfl, hv9, ho9⟩
              rw [hiv] at hv9
              unfold obV at hv9
              simp only [Value.tuple.injEq, Array.mk.injEq, List.cons.injEq, Value.agg.injEq, Value.int.injEq, true_and, and_true] at hv9
              obtain ⟨⟨rfl, rfl, rfl⟩, rfl⟩ := hv9
              obtain ⟨va9, vc9, rfl, hI9, _⟩ := own_is ho9
              have HKs : Hid (∀ u, Ext [] w9 u → Calls Tryz.prog 26 #[.slice va9 (refsM M2 o.nd).length vc9, .slice ad (refsM M2 o.nd).length d] u (Co.SayPost u (.bool true))) := fun u hu => Co.sameInts_true va9 ad _ vc9 d (refsM M2 o.nd) u (Co.Vs.keep0 hI9 (co_ext hu)) (Co.Vs.keep0 HI9.out (co_ext (hE9.trans hu))) rfl (by have := HLe.out ps2.length; rw [HEnd.out] at this; omega)
              have HEz := hid (HEw.out.trans hE9)
              clear hE9 ho9 hI9 HI9 HEw HEnd HLe
              go_wp2_with fail
              refine (HKs.out _ (Ext.alloc _ _ _)).mono ?_
              rintro e w10 ⟨rfl, hE10⟩
              have HE10 := hid (HEz.out.trans ((Ext.alloc _ _ _).trans (ext_co hE10)))
              clear hE10
              go_wp2_with fail
              go_ret
              exact ⟨rfl, HE10.out⟩
        · have hci := HP4.out w4 (Fx.refl _ _) ii hil
          rw [hpi] at hci
          generalize adrF L to = z at *
          obtain ⟨y, hyz⟩ : ∃ y, IntKind.u64.wrap z = y := ⟨_, rfl⟩
          have hy : 0 ≤ y ∧ y < 18446744073709551616 := by
            rw [← hyz]
            simp only [IntKind.wrap, IntKind.bits, IntKind.signed]
            simp
            omega
          have KA := HAdT.out
          go_wp2_with fail
          refine KA.mono ?_
          rintro e w' ⟨rfl, rfl⟩
          clear KA
          by_cases hf0 : (setM M at_ (ii : Int) y).2 = 0
          · have K6 := HSet.out y hy
            obtain ⟨_, hfd2, hwi, hwo⟩ := (HFa.out y hy).2 hf0
            have hj2 := HJ.out.set at_ (ii : Int) y hy
            have hk2 := (HK.out.set at_ (ii : Int) y).1
            have HAf2 := hid (HAf.out y hy)
            generalize hM2 : (setM M at_ (ii : Int) y).1 = M2 at *
            rw [hf0] at K6 HAf2
            obtain ⟨ps2, hps2⟩ := ptr9 hj2 hk2.ob hfd2
            have hpe : ps2 = ps := by rw [← hps2.pt, HPs.out.pt]
            subst hpe
            go_wp2_with fail
            refine K6.mono ?_
            clear K6
            rintro e w5 hp
            have he := hp.1
            subst he
            obtain ⟨K7, hE5⟩ := HAf2.out w5 hp
            have HB5 := hid (HB4.out w5 hp.2.2)
            have HP5 := hid (HP4.out w5 hp.2.2)
            have HE5 := hid hE5
            have HM5 := hid hp.2.1
            clear hp hE5 HAf2 HB4 HP4 HSet HAf
            unfold allM at K7
            rw [hfd2] at K7
            simp only at K7
            rw [HNl.out] at K7
            go_wp2_with fail
            refine K7.mono ?_
            clear K7
            rintro e w6 ⟨v6, rfl, ho6, hE6⟩
            obtain ⟨aa6, ac6, rfl, hU6, _⟩ := own_us ho6
            simp only [wordsF_len]
            obtain ⟨ab, ao, rfl, hac⟩ := Us.at_ hU6 (by intro e; have h9 := congrArg List.length e; rw [wordsF_len] at h9; simp only [List.length_nil] at h9; omega)
            obtain ⟨bb, bo, rfl, hbc⟩ := Us.at_ (show Us w6 ba3 (wordsF M at_ ps2.length) from Co.Vs.keep0 HB5.out (co_ext hE6)) (by intro e; have h9 := congrArg List.length e; rw [wordsF_len] at h9; simp only [List.length_nil] at h9; omega)
            simp only [wordsF_len] at hac hbc
            have hai := hac ii hil
            rw [wordsF_get _ _ hil, hwi] at hai
            have HAc : Hid (∀ u, Ext [] w6 u → ∀ k, k < ps2.length → u.cell? ⟨ab, ao + k, none⟩ = some (.int .u64 (wd M2.H (at_ + 8 * (k : Int)))) ∧ u.cell? ⟨bb, bo + k, none⟩ = some (.int .u64 (wd M.H (at_ + 8 * (k : Int)))) ∧ u.cell? ⟨g4, k, none⟩ = some (.bool (ps2.getD k false))) := fun u hu k hk => by
              have h1 := hu.cell (hac k hk) (by simp)
              have h2 := hu.cell (hbc k hk) (by simp)
              rw [wordsF_get _ _ hk] at h1 h2
              exact ⟨h1, h2, hu.cell (hE6.cell (HP5.out k hk) (by simp)) (by simp)⟩
            have HWo : Hid (∀ k : Nat, k < ps2.length → (k : Int) ≠ ii → wd M2.H (at_ + 8 * (k : Int)) = wd M.H (at_ + 8 * (k : Int))) := fun k hk hne => hwo k (by rw [HNl.out]; exact hk) hne
            have HSt : Hid (∀ k, k < ps2.length → refsF M2 ((Co.slV M2.G o.nd).take (cntT (ps2.take (k + 1)))) = refsF M2 ((Co.slV M2.G o.nd).take (cntT (ps2.take k))) ++ if ps2.getD k false = true ∧ wd M2.H (at_ + 8 * (k : Int)) ≠ 0 then [wd M2.H (at_ + 8 * (k : Int))] else []) := fun k hk => refs_step hps2 hk
            have HLe : Hid (∀ k, (refsF M2 ((Co.slV M2.G o.nd).take (cntT (ps2.take k)))).length ≤ 8192) := fun k => by
              have h1 := refsF_len M2 ((Co.slV M2.G o.nd).take (cntT (ps2.take k)))
              have h2 := cntT_le (ps2.take k)
              simp only [List.length_take] at h1 h2
              omega
            have HBd : Hid (∀ k, k < ps2.length → ps2.getD k false = true → wd M2.H (at_ + 8 * (k : Int)) ≠ 0 → 0 < wd M2.H (at_ + 8 * (k : Int)) ∧ wd M2.H (at_ + 8 * (k : Int)) ≤ 1000000) := fun k hk hp h0 => by
              obtain ⟨q1, q2⟩ := hps2.wo k hk hp
              refine q2 (fun e => h0 ?_)
              rw [q1, e]; rfl
            have HEnd : Hid (refsF M2 ((Co.slV M2.G o.nd).take (cntT (ps2.take ps2.length))) = refsM M2 o.nd) := by
              show _ = refsF M2 (Co.slV M2.G o.nd)
              rw [List.take_of_length_le (Nat.le_refl ps2.length), List.take_of_length_le (by rw [hps2.ln]; exact Nat.le_refl _)]
            have HIn : Hid (∀ u, Ext [] w5 u → Calls Tryz.prog 12 #[.pointer (some ⟨p, 0, none⟩), .int .i64 at_] u (InPost u M2 at_)) := fun u hu => minfo_any (HM5.out.keep0 hu) hk2 at_ HAt.out
            have HFd2 := hid hfd2
            have hj3 : infV M2.H at_ (fnd M2.H at_) = infV M2.H at_ (fnd M2.H at_) := rfl
            have HIv : Hid (∃ x s t, infV M2.H at_ (fnd M2.H at_) = .tuple #[obV x s t, .int .i64 0]) := by
              obtain ⟨t3, q3⟩ := hj2.o3 at_ o (fnd_ob hfd2).1
              obtain ⟨k3, j3, g1, g2, g3⟩ := q3.found hj2.hv
              rw [g1]
              unfold infV
              simp only
              rw [if_pos g2]
              exact ⟨_, _, _, rfl⟩
            have HE6 := hid hE6
            have HE6w := hid (HE5.out.trans hE6)
            clear ho6 hU6 hE6 HB5 HP5 hac hbc hwi hwo hps2 hj2 hk2 hfd2 hM2 hf0 hj3 HM5 HGs HPs HFa HF
            go_wp2_with fail
            have hdd : decide (ps2.length ≤ ii) = false := by simp; omega
            try simp only [hdd]
            clear hdd
            go_loopw [24, 25] (fun rv q wr => ∃ (k : Nat), q = .int .i64 k ∧ k ≤ ps2.length ∧ (∃ ad m d, rv = .slice ad m d) ∧ wr.ownsRow w6.heap.size 3 1 rv (refsF M2 ((Co.slV M2.G o.nd).take (cntT (ps2.take k)))).length (lI (refsF M2 ((Co.slV M2.G o.nd).take (cntT (ps2.take k))))) ∧ Ext [] w6 wr) (fun _ q _ => (ps2.length - (intOf q)).toNat)
            case atStart => exact ⟨0, rfl, Nat.zero_le _, ⟨_, _, _, rfl⟩, own_nil _ _ _ _, Ext.refl _ _⟩
            case round =>
              obtain ⟨k, rfl, hk, ⟨ad, m, d, rfl⟩, hO, hE⟩ := hrel
              have HO := hid hO
              have HE := hid hE
              by_cases hlt : k < ps2.length
              · obtain ⟨ck, bk, pk⟩ := HAc.out wr hE k hlt
                have hS := HSt.out k hlt
                have hW := HWo.out k hlt
                have hB := HBd.out k hlt
                have hle := HLe.out k
                clear hO hE
                generalize wd M2.H (at_ + 8 * (k : Int)) = ak at *
                generalize wd M.H (at_ + 8 * (k : Int)) = bk0 at *
                generalize hpk : ps2.getD k false = pp at *
                by_cases hki : (k : Int) = ii
                · have b1 : ((k : Int) != (ii : Int)) = false := by simpa using hki
                  clear hW hki
                  cases pp
                  · rw [if_neg (by simp), List.append_nil] at hS
                    have HS := hid hS
                    clear hS hB hle
                    go_wp2_with fail
                    go_quiet (fail)
                    go_wp2_with fail
                    go_roundw
                    case rel => exact ⟨k + 1, by go_num, by omega, ⟨_, _, _, rfl⟩, by rw [HS.out]; exact own_keep0 HO.out (Ext.drewN _ _ _), HE.out.trans (Ext.drewN _ _ _)⟩
                    case measure => simp [intOf]; omega
                  · by_cases h0 : ak = 0
                    · rw [if_neg (fun q => q.2 h0), List.append_nil] at hS
                      have HS := hid hS
                      clear hS hB hle
                      subst h0
                      go_wp2_with fail
                      go_quiet (fail)
                      go_wp2_with fail
                      go_roundw
                      case rel => exact ⟨k + 1, by go_num, by omega, ⟨_, _, _, rfl⟩, by rw [HS.out]; exact own_keep0 HO.out (Ext.drewN _ _ _), HE.out.trans (Ext.drewN _ _ _)⟩
                      case measure => simp [intOf]; omega
                    · rw [if_pos ⟨rfl, h0⟩] at hS
                      obtain ⟨hb1, hb2⟩ := hB rfl h0
                      have b2 : (ak != 0) = true := by simpa using h0
                      have hwr : IntKind.i64.wrap ak = ak := by rw [IntKind.wrap_i64]; omega
                      have HApp : Hid (∀ m9, ∃ v' w3, (Builtin.append_ #[32, 32] 32 #[.slice ad m d, .slice (some ⟨(wr.drewN m9).heap.size, 0, none⟩) 1 1]).run Tryz.prog ((wr.drewN m9).alloc (.cells #[.int .i64 ak] 3)) = .ok v' w3 ∧ (∃ a2 n2 c2, v' = .slice a2 n2 c2) ∧ Hid (w3.ownsRow w6.heap.size 3 1 v' (refsF M2 ((Co.slV M2.G o.nd).take (cntT (ps2.take (k + 1))))).length (lI (refsF M2 ((Co.slV M2.G o.nd).take (cntT (ps2.take (k + 1)))))) ∧ Ext [] w6 w3)) := fun m9 => by
                        obtain ⟨v', w3, hr, ho2, hE2⟩ := app_int w6 (wr.drewN m9) (HE.out.trans (Ext.drewN _ _ _)) (.slice ad m d) _ (own_keep0 HO.out (Ext.drewN _ _ _)) ak 32 (by omega)
                        obtain ⟨a2, c2, e, _⟩ := own_slice ho2
                        exact ⟨v', w3, hr, ⟨_, _, _, e⟩, by rw [hS]; exact ho2, hE2⟩
                      clear hS hB hle HO HE
                      go_wp2_with fail
                      go_quiet (fail)
                      obtain ⟨v', w3, hr, ⟨a2, n2, c2, rfl⟩, HO2⟩ := HApp.out nq
                      clear HApp
                      go_wp2_with (first | (at_builtin; refine wpList_append_run rfl _ _ 32 rfl _ _ _ rfl rfl hr ?_) | fail "no arm")
                      go_roundw
                      case rel =>
                        first | exact ⟨k + 1, by go_num, by omega, ⟨_, _, _, rfl⟩, HO2.out.1, HO2.out.2⟩ | (refine ⟨_, _, _, _, _, _, _, _, _, _, _, _, _, _, _, _, _, _, _, _, _, _, _, _, _, _, _, _, _, _, _, _, _, _, _, _, _, _, _, _, _, _, ?_, rfl⟩; exact ⟨k + 1, by go_num, by omega, ⟨_, _, _, rfl⟩, HO2.out.1, HO2.out.2⟩)
                      case measure => simp [intOf]; omega
                · have b1 : ((k : Int) != (ii : Int)) = true := by simpa using hki
                  obtain rfl := hW hki
                  have b3 : (ak != ak) = false := by simp
                  clear hW hki
                  cases pp
                  · rw [if_neg (by simp), List.append_nil] at hS
                    have HS := hid hS
                    clear hS hB hle
                    go_wp2_with fail
                    go_quiet (fail)
                    go_wp2_with fail
                    go_roundw
                    case rel => exact ⟨k + 1, by go_num, by omega, ⟨_, _, _, rfl⟩, by rw [HS.out]; exact own_keep0 HO.out (Ext.drewN _ _ _), HE.out.trans (Ext.drewN _ _ _)⟩
                    case measure => simp [intOf]; omega
                  · by_cases h0 : ak = 0
                    · rw [if_neg (fun q => q.2 h0), List.append_nil] at hS
                      have HS := hid hS
                      clear hS hB hle
                      subst h0
                      go_wp2_with fail
                      go_quiet (fail)
                      go_wp2_with fail
                      go_roundw
                      case rel => exact ⟨k + 1, by go_num, by omega, ⟨_, _, _, rfl⟩, by rw [HS.out]; exact own_keep0 HO.out (Ext.drewN _ _ _), HE.out.trans (Ext.drewN _ _ _)⟩
                      case measure => simp [intOf]; omega
                    · rw [if_pos ⟨rfl, h0⟩] at hS
                      obtain ⟨hb1, hb2⟩ := hB rfl h0
                      have b2 : (ak != 0) = true := by simpa using h0
                      have hwr : IntKind.i64.wrap ak = ak := by rw [IntKind.wrap_i64]; omega
                      have HApp : Hid (∀ m9, ∃ v' w3, (Builtin.append_ #[32, 32] 32 #[.slice ad m d, .slice (some ⟨(wr.drewN m9).heap.size, 0, none⟩) 1 1]).run Tryz.prog ((wr.drewN m9).alloc (.cells #[.int .i64 ak] 3)) = .ok v' w3 ∧ (∃ a2 n2 c2, v' = .slice a2 n2 c2) ∧ Hid (w3.ownsRow w6.heap.size 3 1 v' (refsF M2 ((Co.slV M2.G o.nd).take (cntT (ps2.take (k + 1))))).length (lI (refsF M2 ((Co.slV M2.G o.nd).take (cntT (ps2.take (k + 1)))))) ∧ Ext [] w6 w3)) := fun m9 => by
                        obtain ⟨v', w3, hr, ho2, hE2⟩ := app_int w6 (wr.drewN m9) (HE.out.trans (Ext.drewN _ _ _)) (.slice ad m d) _ (own_keep0 HO.out (Ext.drewN _ _ _)) ak 32 (by omega)
                        obtain ⟨a2, c2, e, _⟩ := own_slice ho2
                        exact ⟨v', w3, hr, ⟨_, _, _, e⟩, by rw [hS]; exact ho2, hE2⟩
                      clear hS hB hle HO HE
                      go_wp2_with fail
                      go_quiet (fail)
                      obtain ⟨v', w3, hr, ⟨a2, n2, c2, rfl⟩, HO2⟩ := HApp.out nq
                      clear HApp
                      go_wp2_with (first | (at_builtin; refine wpList_append_run rfl _ _ 32 rfl _ _ _ rfl rfl hr ?_) | fail "no arm")
                      go_roundw
                      case rel =>
                        first | exact ⟨k + 1, by go_num, by omega, ⟨_, _, _, rfl⟩, HO2.out.1, HO2.out.2⟩ | (refine ⟨_, _, _, _, _, _, _, _, _, _, _, _, _, _, _, _, _, _, _, _, _, _, _, _, _, _, _, _, _, _, _, _, _, _, _, _, _, _, _, _, _, _, ?_, rfl⟩; exact ⟨k + 1, by go_num, by omega, ⟨_, _, _, rfl⟩, HO2.out.1, HO2.out.2⟩)
                      case measure => simp [intOf]; omega
              · obtain rfl : k = ps2.length := by omega
                clear hO hE
                have hO2 := HO.out
                rw [HEnd.out] at hO2
                obtain ⟨ra9, rc9, hsl, hI9, _⟩ := own_is hO2
                simp only [Value.slice.injEq] at hsl
                obtain ⟨rfl, rfl, rfl⟩ := hsl
                have HI9 := hid hI9
                have K9 := HIn.out wr (HE6.out.trans HE.out)
                unfold InPost at K9
                rw [HFd2.out] at K9
                simp only at K9
                obtain ⟨xx, ss, tt, hiv⟩ := HIv.out
                have HEw := hid (HE6w.out.trans HE.out)
                clear hO2 hI9 HIn HO HE
                go_wp2_with fail
                refine K9.mono ?_
                clear K9
                rintro e w9 ⟨hE9, v9, x9, s9, t9, er9, rfl, hv9, ho9⟩
                rw [hiv] at hv9
                unfold obV at hv9
                simp only [Value.tuple.injEq, Array.mk.injEq, List.cons.injEq, Value.agg.injEq, Value.int.injEq, true_and, and_true] at hv9
                obtain ⟨⟨rfl, rfl, rfl⟩, rfl⟩ := hv9
                obtain ⟨va9, vc9, rfl, hI9, _⟩ := own_is ho9
                have HKs : Hid (∀ u, Ext [] w9 u → Calls Tryz.prog 26 #[.slice va9 (refsM M2 o.nd).length vc9, .slice ad (refsM M2 o.nd).length d] u (Co.SayPost u (.bool true))) := fun u hu => Co.sameInts_true va9 ad _ vc9 d (refsM M2 o.nd) u (Co.Vs.keep0 hI9 (co_ext hu)) (Co.Vs.keep0 HI9.out (co_ext (hE9.trans hu))) rfl (by have := HLe.out ps2.length; rw [HEnd.out] at this; omega)
                have HEz := hid (HEw.out.trans hE9)
                clear hE9 ho9 hI9 HI9 HEw HEnd HLe
                go_wp2_with fail
                refine (HKs.out _ (Ext.alloc _ _ _)).mono ?_
                rintro e w10 ⟨rfl, hE10⟩
                have HE10 := hid (HEz.out.trans ((Ext.alloc _ _ _).trans (ext_co hE10)))
                clear hE10
                go_wp2_with fail
                go_ret
                exact ⟨rfl, HE10.out⟩
          · have hres : (setM M at_ (ii : Int) y).1 = M ∧ (setM M at_ (ii : Int) y).2 = 4 := by
              obtain ⟨q0, q⟩ := (HFa.out y hy).1 hf0
              refine ⟨q0, ?_⟩
              rcases q with q | q
              · have := HNl.out; omega
              · exact q.1
            obtain ⟨hr1, hr2⟩ := hres
            have K6 := HSet.out y hy
            rw [hr1, hr2] at K6
            go_wp2_with fail
            refine K6.mono ?_
            clear K6
            rintro e w5 hp
            have he := hp.1
            subst he
            have h7 := HAf.out y hy w5
            rw [hr1, hr2] at h7
            obtain ⟨K7, hE5⟩ := h7 hp
            have HB5 := hid (HB4.out w5 hp.2.2)
            have HP5 := hid (HP4.out w5 hp.2.2)
            have HE5 := hid hE5
            clear hp hE5 h7 HB4 HP4 HSet HAf HAdT
            unfold allM at K7
            rw [HF.out] at K7
            simp only at K7
            rw [HNl.out] at K7
            go_wp2_with fail
            refine K7.mono ?_
            clear K7
            rintro e w6 ⟨v6, rfl, ho6, hE6⟩
            obtain ⟨aa6, ac6, rfl, hU6, _⟩ := own_us ho6
            simp only [wordsF_len]
            have K8 := sameWords_true ba3 aa6 ps.length bc3 ac6 (wordsF M at_ ps.length) w6 (Co.Vs.keep0 HB5.out (co_ext hE6)) hU6 (wordsF_len _ _ _) (by omega)
            have HE6 := hid (HE5.out.trans hE6)
            have HP6 : Hid (∀ k, k < ps.length → w6.cell? ⟨g4, k, none⟩ = some (.bool (ps.getD k false))) := fun k hk => hE6.cell (HP5.out k hk) (by simp)
            clear ho6 hU6 hE6 HB5 HP5
            go_wp2_with fail
            refine K8.mono ?_
            clear K8
            rintro e w7 ⟨rfl, hE7⟩
            have HE7 := hid (HE6.out.trans hE7)
            have hc7 := hE7.cell (HP6.out ii hil) (by simp)
            rw [hpi] at hc7
            clear hE7
            go_wp2_with fail
            go_ret
            exact ⟨rfl, HE7.out⟩

end Go.Proofs.YtgglobkaacdnkaaGreatDoor
