/-
  The program's search depth first; no statement is proved here.
-/
import Derived.Test.YtfjabjnajcfamaaDepA
import Derived.Deep.LoopGhost
namespace Go.Proofs.Ytfjabjnajcfamaa
open Go.RowKit

/-- The answer: the order, in memory of its own. -/
def DfPost (w : World) (N : List (List Nat)) (R : List Nat) (wo : Int) (e : Ending) (w' : World) : Prop :=
  ∃ v O, e = .returned v ∧ Ord N R wo O ∧ w'.ownsRow w.heap.size 3 1 v O.length ((ci O).map (Value.int .i64)) ∧ Ext [] w w'

theorem came_none (n : Nat) : came0 n (-1) = List.replicate n false := by
  apply List.ext_getElem? 
  intro i
  by_cases h : i < n
  · rw [came0_get _ _ _ h]; simp [h]
  · rw [List.getElem?_eq_none (by simp [came0_len]; omega), List.getElem?_eq_none (by simp; omega)]
theorem came_one (n x : Nat) (h : x < n) : came0 n x = (List.replicate n false).set x true := by
  apply List.ext_getElem?
  intro i
  by_cases hi : i < n
  · rw [came0_get _ _ _ hi]
    by_cases hx : x = i
    · subst hx; rw [List.getElem?_set_self (by simpa using h)]; simp
    · rw [List.getElem?_set_ne hx]; simp [hi]; omega
  · rw [List.getElem?_eq_none (by simp [came0_len]; omega), List.getElem?_eq_none (by simp; omega)]

theorem Is.drop {w : World} {b o : Nat} {l : List Nat} (k : Nat) (h : Is w (some ⟨b, o, none⟩) (ci l)) : Is w (some ⟨b, o + k, none⟩) (ci (l.drop k)) := by
  rcases h with h | ⟨b', o', e, hc⟩
  · left
    simp only [ci, List.map_map, List.map_eq_nil_iff] at h
    subst h
    simp [ci]
  · cases e
    right
    refine ⟨b, o + k, rfl, fun j hj => ?_⟩
    simp only [ci, List.map_map, List.length_map, List.length_drop] at hj
    have := hc (k + j) (by simp [ci]; omega)
    rw [Nat.add_assoc, this]
    simp [ci]
theorem Is.nil (w : World) (a : Option Addr) : Is w a (ci []) := .inl rfl

/-- What stands of the search ahead of its loops. -/
structure Pre (w0 : World) (a : Option Addr) (n c : Nat) (W : World) (C : List Bool) : Prop where
  ext : Ext [] w0 W
  net : Boxed W w0.heap.size 22 (.slice a n c)
  cb : Boxed W (w0.heap.size + 2) 25 (.slice (some ⟨w0.heap.size + 1, 0, none⟩) n n)
  cr : W.heap[w0.heap.size + 1]? = some (.cells (C.map Value.bool).toArray 4 (0, 0))

set_option maxHeartbeats 4000000 in
theorem depth_any (N : List (List Nat)) (R : List Nat) (wo : Int) (a : Option Addr) (n c : Nat) (ra : Option Addr) (rn rc : Nat) (w : World) (hN : Nt w a (cn N)) (hn : N.length = n) (hnb : n ≤ 65536) (hNet : Net N) (hSl : Slim N) (hR : Is w ra (ci R)) (hrn : R.length = rn) (hrb : rn ≤ 17592186044416) (hRN : Nodes N R) (hwo : wo = -1 ∨ 0 ≤ wo ∧ wo < n) :
    Calls Try.prog 35 #[.slice a n c, .slice ra rn rc, .int .i64 wo] w (DfPost w N R wo) := by
  obtain ⟨i4, hi4, hz4, hs4, hy4⟩ := info_parts info4
  have hr := run_make (P := Try.prog) (w.alloc (.cells #[.slice a n c] 22)) 25 4 i4 _ Try.underlying25 hi4 hz4 .i64 .i64 n n (by omega) (Int.le_refl _) (by rw [hy4]; omega) (by omega)
  rw [hs4] at hr
  simp only [Int.toNat_natCast] at hr
  have hm : madeCells (Value.bool false).cells (n * 1) = ((List.replicate n false).map Value.bool).toArray := by
    apply Array.toList_inj.1
    rw [show (Value.bool false).cells = #[.bool false] from rfl, toList_madeCells_one]
    simp
  rw [hm] at hr
  clear hm hi4 hz4 hs4 hy4 i4
  generalize hX : ((List.replicate n false).map Value.bool).toArray = X at hr
  have HX : Hid (((List.replicate n false).map Value.bool).toArray = X) := hX
  clear hX
  go_enter Try.func35, Try.ntmps35
  go_upto_if 20 with fail
  rw [show w.heap.size + 1 + 1 = w.heap.size + 2 from rfl]
  have HP : Hid (Pre w a n c (((w.alloc (.cells #[.slice a n c] 22)).alloc (.cells X 4)).alloc (.cells #[.slice (some ⟨w.heap.size + 1, 0, none⟩) n n] 25)) (List.replicate n false)) := by
    have b1 := (Boxed.new w 22 (.slice a n c)).alloc (.cells X 4)
    have b2 := Boxed.new ((w.alloc (.cells #[.slice a n c] 22)).alloc (.cells X 4)) 25 (.slice (some ⟨w.heap.size + 1, 0, none⟩) n n)
    have b3 : ((w.alloc (.cells #[.slice a n c] 22)).alloc (.cells X 4)).heap[w.heap.size + 1]? = some (.cells X 4 (0, 0)) := by
      have := heap_alloc_new (w.alloc (.cells #[.slice a n c] 22)) (.cells X 4)
      simpa using this
    refine ⟨((Ext.alloc [] _ _).trans (Ext.alloc [] _ _)).trans (Ext.alloc [] _ _), b1.alloc _, by simpa using b2, ?_⟩
    rw [HX.out]
    exact (Ext.alloc [] _ _).keep b3 (by simp)
  have hws : (((w.alloc (.cells #[.slice a n c] 22)).alloc (.cells X 4)).alloc (.cells #[.slice (some ⟨w.heap.size + 1, 0, none⟩) n n] 25)).heap.size = w.heap.size + 3 := by simp
  generalize ((w.alloc (.cells #[.slice a n c] 22)).alloc (.cells X 4)).alloc (.cells #[.slice (some ⟨w.heap.size + 1, 0, none⟩) n n] 25) = W0 at *
  clear hr HX
  go_cut [] from 19 (fun wc => wc.heap.size = w.heap.size + 3 ∧ Pre w a n c wc (came0 n wo))
  case first =>
    have k0 := HP.out.cb.cell
    rcases hwo with rfl | ⟨h0, h1⟩
    · go_wp2_with fail
      go_meet
      case rel => exact ⟨hws, by rw [came_none]; exact HP.out⟩
    · obtain ⟨x, rfl⟩ : ∃ x : Nat, wo = x := ⟨wo.toNat, by omega⟩
      have k1 : W0.cell? ⟨w.heap.size + 1, x, none⟩ = some (.bool false) := by
        have hx : x < n := by omega
        rw [cell_of_row _ _ _ _ _ _ HP.out.cr]
        simp [hx]
      have k2 : W0.frozen? ⟨w.heap.size + 1, x, none⟩ = false := frozen_of_row _ _ _ _ _ HP.out.cr
      have hne : ((x : Int) != -1) = true := by simp
      go_wp2_with fail
      go_meet
      case rel =>
        refine ⟨by simpa using hws, ?_⟩
        rw [came_one n x (by omega)]
        have hE := Ext.setCell [w.heap.size + 1] W0 ⟨w.heap.size + 1, x, none⟩ (.bool true) (by simp)
        refine ⟨HP.out.ext.on hE (by simp), hE.keep HP.out.net (by simp), hE.keep HP.out.cb (by simp), ?_⟩
        rw [set_row HP.out.cr, List.map_set, List.setIfInBounds_toArray]
  case rest =>
    obtain ⟨hwc, hP⟩ := hcut
    clear HP hws
    have HS : Hid (Sm w a n c ((wc.alloc (.cells #[.slice none 0 0] 23)).alloc (.cells #[.slice none 0 0] 22)) (came0 n wo) [] []) := by
      have hE : Ext [] wc ((wc.alloc (.cells #[.slice none 0 0] 23)).alloc (.cells #[.slice none 0 0] 22)) := (Ext.alloc [] _ _).trans (Ext.alloc [] _ _)
      have b1 := (Boxed.new wc 23 (.slice none 0 0)).alloc (.cells #[.slice none 0 0] 22)
      have b2 := Boxed.new (wc.alloc (.cells #[.slice none 0 0] 23)) 22 (.slice none 0 0)
      rw [hwc] at b1
      simp only [World.size_alloc, hwc] at b2
      exact ⟨hP.ext.trans hE, by simp; omega, hE.keep hP.net (by simp), hE.keep hP.cb (by simp), hE.keep hP.cr (by simp), came0_len _ _, ⟨_, b1, own_nil _ _ _ _⟩, ⟨_, [], b2, own_nil _ _ _ _, rfl, by simp⟩⟩
    have HPu : Hid (Pu N R wo R (came0 n wo) [] []) := by
      refine ⟨?_, by simp, by simp, by simp, fun C' O' k => by rw [hn]; simpa using k⟩
      have := List.count_le_length (l := came0 n wo) (a := false)
      rw [came0_len] at this
      simp
      omega
    have HN := hid hN
    have HNn := hid hn
    have HNet := hid hNet
    have HSl := hid hSl
    have HR := hid hR
    have HRn := hid hrn
    have HRN := hid hRN
    clear hN hn hNet hSl hR hrn hRN hP hwo
    go_upto_region 8 with fail
    rw [show w.heap.size + 3 + 1 = w.heap.size + 4 from rfl]
    generalize (wc.alloc (.cells #[.slice none 0 0] 23)).alloc (.cells #[.slice none 0 0] 22) = W1 at *
    clear hwc
    go_loopg [27] rn (fun g u wr => ∃ k C O, k + g = rn ∧ u = .int .i64 (k : Nat) ∧ Sm w a n c wr C O [] ∧ Pu N R wo (R.drop k) C O [])
    case atStart => exact ⟨0, _, [], by omega, rfl, HS.out, HPu.out⟩
    case round =>
      clear HS HPu
      obtain ⟨k, C, O, hkg, rfl, hS, hPu⟩ := hrel
      have HS := hid hS
      have HPu := hid hPu
      have hO : O.length ≤ 65536 := by have := hPu.cnt; have := HNn.out; omega
      clear hS hPu
      cases gk with
      | zero =>
        obtain rfl : k = rn := by omega
        obtain ⟨v, hb, ho⟩ := HS.out.ob
        have k0 := hb.cell
        have HF : Hid (DfPost w N R wo (.returned v) wr) := by
          have h1 := HPu.out.run C O
          rw [List.drop_eq_nil_of_le (by rw [HRn.out]; exact Nat.le_refl _)] at h1
          exact ⟨v, O, rfl, ord_of HNet.out HRN.out (h1 (.pop (.done _ _))), own_base ho (by omega), HS.out.ext⟩
        obtain ⟨av, cv, rfl, _⟩ := own_slice ho
        clear hb ho
        go_wp2_with fail
        go_ret
        exact HF.out
      | succ g =>
        have hkr : k < rn := by omega
        obtain ⟨b, o, rfl, hc⟩ := HR.out.cell (j := k) (by rw [ci_len, HRn.out]; exact hkr)
        rw [ci_get _ _ (by rw [HRn.out]; exact hkr)] at hc
        have hd : R.drop k = R.getD k 0 :: R.drop (k + 1) := by
          rw [List.drop_eq_getElem_cons (by rw [HRn.out]; exact hkr)]
          simp [show k < R.length by rw [HRn.out]; exact hkr]
        have hx : R.getD k 0 < n := by
          have := HRN.out (R.getD k 0) (by simp [show k < R.length by rw [HRn.out]; exact hkr])
          rw [HNn.out] at this
          exact this
        have HPd : Hid (Pu N R wo (R.getD k 0 :: R.drop (k + 1)) C O []) := by rw [← hd]; exact HPu.out
        generalize R.getD k 0 = x at *
        have k1 := HS.out.ext.cell hc (by simp)
        have k0 := HS.out.cb.cell
        have k2 := HS.out.ccell hx
        have hCl := HS.out.cl
        have hgx : C[x]? = some (C.getD x false) := by simp [show x < C.length by omega]
        clear hd hc HPu
        cases hcx : C.getD x false
        · rw [hcx] at k2 hgx
          have HP2 := hid (HPd.out.root HNet.out HSl.out hgx)
          have KE := enter_any N w a n c wr C O [] x HN.out HNn.out hx hO (by simp) HS.out
          clear hcx hgx hCl
          go_wp2_with fail
          go_step3
          go_wp2_with fail
          refine KE.mono ?_
          clear KE
          rintro e w2 ⟨⟨v2, rfl⟩, hS2⟩
          go_wp2_with fail
          go_step3
          go_wp2_with fail
          have HS2 := hid hS2
          clear hS2 k0 k1 k2 HS HPd
          simp only [List.nil_append] at HS2
          go_loopg [13] (2 * (C.set x true).count false + 1) (fun g2 _ wx => ∃ C2 O2 P2, 2 * C2.count false + P2.length ≤ g2 ∧ Sm w a n c wx C2 O2 P2 ∧ Pu N R wo (R.drop (k + 1)) C2 O2 P2)
          case atStart => exact ⟨_, _, _, Nat.le_refl _, HS2.out, HP2.out⟩
          case round =>
            clear HS2 HP2 hO hx
            obtain ⟨G2, hG2⟩ : ∃ G2, G2 = gk := ⟨_, rfl⟩
            subst hG2
            obtain ⟨C2, O2, P2, hg2, hS3, hP3⟩ := hrel
            have HS3 := hid hS3
            have HP3 := hid hP3
            have hO2 : O2.length ≤ 65536 := by have := hP3.cnt; have := HNn.out; omega
            have hP2l : P2.length ≤ 65536 := by have := hP3.pl; omega
            clear hS3 hP3
            rcases List.eq_nil_or_concat P2 with rfl | ⟨P, l, hPl⟩
            · obtain ⟨v, vs, hb, ho, _⟩ := HS3.out.pb
              have k0 := hb.cell
              obtain ⟨av, cv, rfl, _⟩ := own_slice ho
              simp only [List.length_nil] at k0
              clear hb ho
              go_wp2_with fail
              rw [Exit.noGoto_normal]
              go_wp2_with fail
              go_roundg g
              case measure => omega
              case rel => exact ⟨k + 1, C2, O2, by omega, by go_num, HS3.out, HP3.out⟩
            · rw [List.concat_eq_append] at hPl
              subst hPl
              obtain ⟨gp, cap, vs, fa, fc, hb, ho, hst, hI, hlc, hcap⟩ := HS3.out.last
              have k0 := hb.cell
              have hvl := hst.1
              have k1 : wr.cell? ⟨gp, P.length, none⟩ = some (.slice fa l.length fc) := by
                rw [ho.cellAt P.length (by omega), List.getElem?_append_right (by omega)]
                simp [hvl]
              have k2 : wr.frozen? ⟨gp, P.length, none⟩ = false := ho.frozenAt _
              have k3 := hb.frozen
              have k4 := HS3.out.cb.cell
              have HB := hid hb
              have HO := hid ho
              have HST := hid hst
              have HI := hid hI
              have HIw := hid (hI.keep0 HS3.out.ext)
              have hgp := own_lt ho gp rfl
              have HL := hid (HP3.out.pn l (by simp))
              have HLb := hid hlc
              have hl81 := HP3.out.pw l (by simp)
              simp only [List.length_append, List.length_singleton] at hP2l hg2
              have hPi : (P.length : Int) + 1 - 1 = P.length := by omega
              clear hb ho hst hI hvl
              go_wp2_with fail
              go_loopg [49] l.length (fun g3 u wx => ∃ i : Nat, i + g3 = l.length ∧ u = .int .i64 (i : Nat) ∧ wx = wr ∧ ∀ y ∈ l.take i, C2[y]? = some true)
              case atStart => exact ⟨0, by omega, rfl, rfl, by simp⟩
              case round =>
                obtain ⟨i, hig, rfl, hwx, hcame⟩ := hrel
                subst hwx
                have HCm := hid hcame
                clear hcame
                cases gk with
                | zero =>
                  obtain rfl : i = l.length := by omega
                  have HPp := hid (HP3.out.pop (fun y hy => HCm.out y (by rw [List.take_length]; exact hy)))
                  have HSp := hid (HS3.out.pop HB.out HO.out HST.out)
                  go_wp2_with fail
                  go_roundg (G2 - 1)
                  case measure => omega
                  case rel => exact ⟨C2, O2, P, by omega, HSp.out, HPp.out⟩
                | succ g3 =>
                  have hil : i < l.length := by omega
                  obtain ⟨fb, fo, rfl, hc⟩ := HIw.out.cell (j := i) (by rw [ci_len]; exact hil)
                  rw [ci_get _ _ hil] at hc
                  have hx2 : l.getD i 0 < n := by
                    have := HL.out (l.getD i 0) (by simp [hil])
                    rw [HNn.out] at this
                    exact this
                  have HSpl : Hid (l = l.take i ++ l.getD i 0 :: l.drop (i + 1)) := by
                    show _ = _
                    conv => lhs; rw [← List.take_append_drop i l, List.drop_eq_getElem_cons hil]
                    simp [hil]
                  have HTk : Hid (l.take (i + 1) = l.take i ++ [l.getD i 0]) := by
                    show _ = _
                    rw [List.take_add_one]; simp [hil]
                  generalize l.getD i 0 = y at *
                  have k5 := HS3.out.ccell hx2
                  have hCl := HS3.out.cl
                  have hgy : C2[y]? = some (C2.getD y false) := by simp [show y < C2.length by omega]
                  cases hcy : C2.getD y false
                  · rw [hcy] at k5 hgy
                    have HPg : Hid (Pu N R wo (R.drop (k + 1)) (C2.set y true) (O2 ++ [y]) (P ++ [l.drop (i + 1)] ++ [nxt N y])) := by
                      have h1 := HP3.out
                      rw [HSpl.out] at h1
                      have h2 := Pu.go HNet.out HSl.out h1 HCm.out hgy
                      exact h2
                    clear hcy hCl
                    have hii : ((i : Int) + 1) ≤ l.length := by omega
                    have HLd := hid (List.length_drop (i := i + 1) (l := l))
                    have HCc := hid (count_came hgy)
                    clear hgy
                    by_cases hfc : i + 1 < fc
                    · have hfci : (i : Int) + 1 < fc := by omega
                      have HSr := hid ((HS3.out.recut (l' := l.drop (i + 1)) (fc' := fc - (i + 1)) HB.out HO.out HST.out (HI.out.drop (i + 1)) (by rw [HLd.out]; omega)).keep0 (Ext.drew [] _))
                      rw [HLd.out] at HSr
                      have KE := enter_any N w a n c _ C2 O2 (P ++ [l.drop (i + 1)]) y HN.out HNn.out hx2 hO2 (by simp; omega) HSr.out
                      clear HSr
                      go_wp2_with fail
                      go_region
                      go_wp2_with fail
                      refine KE.mono ?_
                      clear KE
                      rintro e w5 ⟨⟨v5, rfl⟩, hS5⟩
                      have HS5 := hid hS5
                      clear hS5 k0 k1 k2 k3 k4 k5 hc
                      go_wp2_with fail
                      go_roundg (G2 - 1)
                      case measure => omega
                      case rel => exact ⟨_, _, _, by have := HCc.out; simp; omega, HS5.out, HPg.out⟩
                    · have hfci : (i : Int) + 1 = fc := by omega
                      have HD0 : Hid (l.drop (i + 1) = []) := by
                        show _ = _
                        rw [List.drop_eq_nil_of_le (by omega)]
                      have HSr := hid ((HS3.out.recut (l' := []) (fa' := some ⟨fb, fo, none⟩) (fc' := 0) HB.out HO.out HST.out (Is.nil _ _) (by simp)).keep0 (Ext.drew [] _))
                      have KE := enter_any N w a n c _ C2 O2 (P ++ [[]]) y HN.out HNn.out hx2 hO2 (by simp; omega) HSr.out
                      clear HSr
                      go_wp2_with fail
                      go_region
                      go_wp2_with fail
                      refine KE.mono ?_
                      clear KE
                      rintro e w5 ⟨⟨v5, rfl⟩, hS5⟩
                      have HS5 : Hid (Sm w a n c w5 (C2.set y true) (O2 ++ [y]) (P ++ [l.drop (i + 1)] ++ [nxt N y])) := by
                        rw [HD0.out]
                        exact hS5
                      clear hS5 k0 k1 k2 k3 k4 k5 hc
                      go_wp2_with fail
                      go_roundg (G2 - 1)
                      case measure => omega
                      case rel => exact ⟨_, _, _, by have := HCc.out; simp; omega, HS5.out, HPg.out⟩
                  · rw [hcy] at k5 hgy
                    have HGy := hid hgy
                    clear hgy hcy hCl
                    go_wp2_with fail
                    go_roundg g3
                    case measure => omega
                    case rel =>
                      refine ⟨i + 1, by omega, by go_num, rfl, fun z hz => ?_⟩
                      rw [HTk.out, List.mem_append, List.mem_singleton] at hz
                      rcases hz with hz | rfl
                      · exact HCm.out z hz
                      · exact HGy.out
        · rw [hcx] at k2 hgx
          have HP2 := hid (HPd.out.rootSkip hgx)
          clear hcx hgx hCl
          go_wp2_with fail
          go_step3
          go_wp2_with fail
          rw [Exit.noGoto_exit]
          go_wp2_with fail
          go_roundg g
          case measure => omega
          case rel => exact ⟨k + 1, C, O, by omega, by go_num, HS.out, HP2.out⟩

end Go.Proofs.Ytfjabjnajcfamaa
