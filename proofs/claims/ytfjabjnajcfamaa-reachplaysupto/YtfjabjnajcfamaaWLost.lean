/-
  The function ReachLost walked through; no statement is proved here.
-/
import Derived.Test.YtfjabjnajcfamaaWWay
import Derived.Deep.CutBlock
namespace Go.Proofs.Ytfjabjnajcfamaa
open Go.RowKit

theorem lostOf_mem {L1 L2 : List Bool} {k x : Nat} : x ∈ lostOf L1 L2 k ↔ x < k ∧ L1.getD x false = true ∧ L2.getD x false = false := by
  simp [lostOf]
theorem lostOf_rise (L1 L2 : List Bool) (k i j : Nat) (hij : i < j) (hj : j < (lostOf L1 L2 k).length) : qa (lostOf L1 L2 k) i < qa (lostOf L1 L2 k) j := by
  have h1 : (lostOf L1 L2 k).Pairwise (· < ·) := List.pairwise_lt_range.filter _
  have h2 := List.pairwise_iff_getElem.1 h1 i j (by omega) hj hij
  have e1 : qa (lostOf L1 L2 k) i = (lostOf L1 L2 k)[i] := by simp [qa, show i < (lostOf L1 L2 k).length by omega]
  have e2 : qa (lostOf L1 L2 k) j = (lostOf L1 L2 k)[j] := by simp [qa, hj]
  rw [e1, e2]
  exact h2
theorem Wy.apart {N : List (List Nat)} {R u : List Nat} {x : Nat} {wo : Nat} (h : Wy N R u x) : wo ∉ u → Rch N R wo x := by
  induction h with
  | @root x hx => intro hw; exact .root hx (by simp at hw; omega)
  | @step u x y hu hy ih =>
    intro hw
    simp only [List.mem_append, List.mem_singleton, not_or] at hw
    exact .step (ih hw.1) hy (by have := hw.2; omega)

namespace reachLost

set_option maxRecDepth 100000 in
set_option maxHeartbeats 4000000 in
theorem bad (a : Option Addr) (n c : Nat) (ra : Option Addr) (rn rc : Nat) (x : Int) (y : Int) (M : List (List Int)) (R : List Int) (w : World) (hN : Nt w a M) (hn : M.length = n) (hR : Is w ra R) (hrn : R.length = rn) (hrb : rn ≤ 17592186044416) (hne : errB M R [x] ≠ 0) :
    Calls Try.prog 6 #[.slice a n c, .slice ra rn rc, .int .i64 x, .int .i64 y] w (SayPost w (.bool true)) := by
  have HN := hid hN
  have HR := hid hR
  have HW := hid hne
  have HNn := hid hn
  have HRn := hid hrn
  clear hN hR hne hn hrn
  go_enter Try.func6, Try.ntmps6
  go_wp2_with fail
  refine (awake_any w).mono ?_
  rintro e w1 ⟨rfl, hE1⟩
  have HE1 := hid hE1
  have K := copied_any a n c M w1 (HN.out.keep0 hE1) HNn.out
  clear hE1
  go_wp2_with fail
  refine K.mono ?_
  clear K
  rintro e w2 ⟨a2, c2, rfl, _, hN2, hE2⟩
  have HN2 := hid hN2
  have HE2 := hid (HE1.out.trans hE2)
  have K := own_any ra rn rc R w2 (HR.out.keep0 HE2.out) HRn.out hrb
  clear hN2 hE2 HE1
  go_wp2_with fail
  refine K.mono ?_
  clear K
  rintro e w3 ⟨a3, c3, rfl, _, ho3, hE3⟩
  have K := lost_bad a2 M.length c2 a3 R.length c3 x M R w3 (HN2.out.keep0 hE3) rfl (own_vs ho3) rfl (by rw [HRn.out]; exact hrb) HW.out
  have HE3 := hid (HE2.out.trans hE3)
  have hne2 : (errB M R [x] != 0) = true := by simpa using HW.out
  clear ho3 hE3 HW HE2 HN2
  generalize errB M R [x] = er at *
  go_wp2_with fail
  refine K.mono ?_
  clear K
  rintro e w4 ⟨rfl, hE4⟩
  have HE4 := hid (HE3.out.trans hE4)
  clear hE4 HE3
  go_wp2_with fail
  go_ret
  exact ⟨rfl, HE4.out⟩

set_option maxRecDepth 100000 in
set_option maxHeartbeats 8000000 in
theorem good (a : Option Addr) (n c : Nat) (ra : Option Addr) (rn rc : Nat) (wo : Nat) (y : Int) (N : List (List Nat)) (R : List Nat) (w : World) (hN : Nt w a (cn N)) (hn : N.length = n) (hR : Is w ra (ci R)) (hrn : R.length = rn) (hrb : rn ≤ 17592186044416) (hGo : Good N R) (hwo : wo < n) :
    Calls Try.prog 6 #[.slice a n c, .slice ra rn rc, .int .i64 wo, .int .i64 y] w (SayPost w (.bool true)) := by
  have HN := hid hN
  have HR := hid hR
  have HGo := hid hGo
  have HNn := hid hn
  have HRn := hid hrn
  have hnb : n ≤ 65536 := by have := hGo.len; omega
  have HK : Hid (∀ W, Ext [] w W → Calls Try.prog 11 #[.slice a n c] W (CpPost W (cn N))) := fun W h => copied_any a n c (cn N) W (hN.keep0 h) (by rw [cn_len]; exact hn)
  have HK2 : Hid (∀ W, Ext [] w W → Calls Try.prog 12 #[.slice ra rn rc] W (OwPost W (ci R))) := fun W h => own_any ra rn rc (ci R) W (hR.keep0 h) (by rw [ci_len]; exact hrn) hrb
  clear hN hR hGo hn hrn
  go_enter Try.func6, Try.ntmps6
  go_wp2_with fail
  refine (awake_any w).mono ?_
  rintro e w1 ⟨rfl, hE1⟩
  have HE1 := hid hE1
  have K := HK.out w1 hE1
  clear hE1
  go_wp2_with fail
  refine K.mono ?_
  clear K
  rintro e w2 ⟨a2, c2, rfl, _, hN2, hE2⟩
  have HN2 := hid hN2
  have HE2 := hid (HE1.out.trans hE2)
  have K := HK2.out w2 HE2.out
  clear hN2 hE2 HE1
  go_wp2_with fail
  refine K.mono ?_
  clear K
  rintro e w3 ⟨a3, c3, rfl, _, ho3, hE3⟩
  have K := lost_any N R wo a2 (cn N).length c2 a3 (ci R).length c3 w3 (HN2.out.keep0 hE3) (by rw [cn_len]) HGo.out (own_vs ho3) (by rw [ci_len]) (by rw [ci_len, HRn.out]; exact hrb) (by rw [cn_len, HNn.out]; exact hwo)
  have HE3 := hid (HE2.out.trans hE3)
  clear ho3 hE3 HE2 HN2
  go_wp2_with fail
  refine K.mono ?_
  clear K
  rintro e w4 ⟨L1, L2, al, cl, hB1, hB2, rfl, hol, hE4⟩
  rw [HNn.out] at hol ⊢
  have HB1 := hid hB1
  have HB2 := hid hB2
  have HL := hid (show Is w4 al (ci (lostOf L1 L2 n)) from own_vs hol)
  have HMem : Hid (∀ x, x ∈ lostOf L1 L2 n → x < n ∧ L1.getD x false = true ∧ ¬ Rch N R wo x) := fun x hx => by
    obtain ⟨h1, h2, h3⟩ := lostOf_mem.1 hx
    refine ⟨h1, h2, fun hr => ?_⟩
    have := (HB2.out.mem x (by rw [HNn.out]; exact h1)).2 hr
    rw [h3] at this
    cases this
  have HWo : Hid (decide ((wo : Int) ∈ ci (lostOf L1 L2 n)) = L1.getD wo false) := by
    show _ = _
    rw [Bool.eq_iff_iff, decide_eq_true_eq, ci_mem, lostOf_mem]
    refine ⟨fun h => h.2.1, fun h => ⟨hwo, h, ?_⟩⟩
    cases hq : L2.getD wo false
    · rfl
    · exact absurd rfl ((HB2.out.mem wo (by rw [HNn.out]; exact hwo)).1 hq).ne
  have HRise := hid (lostOf_rise L1 L2 n)
  have hlb := lostOf_len L1 L2 n
  have HE4 := hid (HE3.out.trans hE4)
  have K := HK.out w4 HE4.out
  generalize lostOf L1 L2 n = LO at *
  clear hB1 hB2 hol hE4 HE3 HB2
  go_wp2_with fail
  refine K.mono ?_
  clear K
  rintro e w5 ⟨a5, c5, rfl, _, hN5, hE5⟩
  have HN5 := hid hN5
  have HE5 := hid (HE4.out.trans hE5)
  have HL5 := hid (HL.out.keep0 hE5)
  have K := HK2.out w5 HE5.out
  clear hN5 hE5 HE4 HL
  go_wp2_with fail
  refine K.mono ?_
  clear K
  rintro e w6 ⟨a6, c6, rfl, _, ho6, hE6⟩
  have K := set_ok N R a5 (cn N).length c5 a6 (ci R).length c6 w6 (HN5.out.keep0 hE6) (by rw [cn_len]) HGo.out (own_vs ho6) (by rw [ci_len]) (by rw [ci_len, HRn.out]; exact hrb)
  have HE6 := hid (HE5.out.trans hE6)
  have HL6 := hid (HL5.out.keep0 hE6)
  clear ho6 hE6 HE5 HN5 HL5
  go_wp2_with fail
  refine K.mono ?_
  clear K
  rintro e w7 ⟨v, L, rfl, hB, ho, hE⟩
  have HE7 := hid (HE6.out.trans hE)
  have HL7 := hid (HL6.out.keep0 hE)
  obtain ⟨av, cv, rfl, _⟩ := own_slice ho
  obtain ⟨lb, lo, rfl, hls⟩ := Os.at_ (show Os w7 av L from own_vs ho) (by intro e; have := hB.len; rw [e] at this; have := HNn.out; simp at *; omega)
  rw [hB.len, HNn.out] at hls
  have HLL : Hid (L1.getD wo false = L.getD wo false) := by
    show _ = _
    rw [Bool.eq_iff_iff, HB1.out.mem wo (by rw [HNn.out]; exact hwo), hB.mem wo (by rw [HNn.out]; exact hwo)]
  have HSeen : Hid (∀ x, x ∈ LO → L.getD x false = true) := fun x hx => by
    obtain ⟨h1, h2, _⟩ := HMem.out x hx
    exact (hB.mem x (by rw [HNn.out]; exact h1)).2 ((HB1.out.mem x (by rw [HNn.out]; exact h1)).1 h2)
  have kw := hls wo hwo
  have HLs := hid hls
  have K := fun q => in_any al LO.length cl (ci LO) (wo : Int) (w7.drewN q) (HL7.out.keep0 (Ext.drewN [] _ _)) (ci_len _) (by omega)
  rw [HWo.out, HLL.out] at K
  rw [HNn.out]
  generalize L.getD wo false = bw at *
  clear hB ho hE HE6 HL6 hls HWo HLL
  have hnn : ((n : Int) != n) = false := by simp
  have hbb : (bw != bw) = false := by cases bw <;> rfl
  go_wp2_with fail
  go_quiet (first | (go_at_call 24; refine Calls.quiet_of_same (K _)))
  clear K
  have hEd := Ext.drewN [] w7 nq
  have HE8 := hid (HE7.out.trans hEd)
  have HL8 := hid (HL7.out.keep0 hEd)
  have HLs8 : Hid (∀ x, x < n → (w7.drewN nq).cell? ⟨lb, lo + x, none⟩ = some (.bool (L.getD x false))) := fun x hx => hEd.cell (HLs.out x hx) (by simp)
  generalize w7.drewN nq = w8 at *
  clear hEd HE7 HL7 HLs kw hbb
  go_wp2_with fail
  go_loopg [13] LO.length (fun q u wr => ∃ i : Nat, i + q = LO.length ∧ u = .int .i64 i ∧ Ext [] w8 wr)
  case atStart => exact ⟨0, by omega, rfl, Ext.refl _ _⟩
  case round =>
    obtain ⟨i, hiq, rfl, hE⟩ := hrel
    have HE := hid hE
    clear hE
    cases gk with
    | zero =>
      obtain rfl : i = LO.length := by omega
      have HE9 := hid (HE8.out.trans HE.out)
      have HL9 := hid (HL8.out.keep0 HE.out)
      have K := HK.out wr HE9.out
      clear HE HE8 HL8 HLs8
      go_wp2_with fail
      refine K.mono ?_
      clear K
      rintro e w10 ⟨a10, c10, rfl, _, hN10, hE10⟩
      have HN10 := hid hN10
      have HE10 := hid (HE9.out.trans hE10)
      have HL10 := hid (HL9.out.keep0 hE10)
      have K := HK2.out w10 HE10.out
      clear hN10 hE10 HE9 HL9
      go_wp2_with fail
      refine K.mono ?_
      clear K
      rintro e w11 ⟨a11, c11, rfl, _, ho11, hE11⟩
      have HN11 := hid (HN10.out.keep0 hE11)
      have HI11 := hid (show Is w11 a11 (ci R) from own_vs ho11)
      have HE11 := hid (HE10.out.trans hE11)
      have HL11 := hid (HL10.out.keep0 hE11)
      clear ho11 hE11 HE10 HL10 HN10
      by_cases hy : 0 ≤ y ∧ y < n
      · obtain ⟨t, rfl⟩ : ∃ t : Nat, y = t := ⟨y.toNat, by omega⟩
        have htn : t < n := by omega
        have K := way_any N R t a10 (cn N).length c10 a11 (ci R).length c11 w11 HN11.out (by rw [cn_len]) HGo.out HI11.out (by rw [ci_len]) (by rw [ci_len, HRn.out]; exact hrb) (by rw [cn_len, HNn.out]; exact htn)
        clear hy
        go_wp2_with fail
        refine K.mono ?_
        clear K
        rintro e w12 (⟨u, au, cu, hBest, hul, rfl, hou, hE12⟩ | ⟨hno, rfl, hE12⟩)
        · have HE12 := hid (HE11.out.trans hE12)
          have HL12 := hid (HL11.out.keep0 hE12)
          have HU := hid (show Is w12 au (ci u) from own_vs hou)
          have hul2 : u.length ≤ 65537 := by have := HNn.out; omega
          have K1 := in_any al LO.length cl (ci LO) (t : Int) w12 HL12.out (ci_len _) (by omega)
          have K2 := in_any au u.length cu (ci u) (wo : Int) w12 HU.out (ci_len _) (by omega)
          have HImp : Hid (decide ((t : Int) ∈ ci LO) = true → decide ((wo : Int) ∈ ci u) = true) := fun h => by
            rw [decide_eq_true_eq, ci_mem] at h ⊢
            refine Classical.byContradiction fun hno => ?_
            exact (HMem.out t h).2.2 (hBest.wy.apart hno)
          generalize decide ((t : Int) ∈ ci LO) = b1 at *
          generalize decide ((wo : Int) ∈ ci u) = b2 at *
          clear hBest hul hou hE12 HE11 HL11 HL12 HU
          cases b1
          · go_wp2_with fail
            refine met K1 ?_
            go_wp2_with fail
            go_ret
            exact ⟨rfl, HE12.out⟩
          · have hb2 : b2 = true := HImp.out rfl
            subst hb2
            clear HImp
            go_wp2_with fail
            refine met K1 ?_
            go_wp2_with fail
            refine met K2 ?_
            go_wp2_with fail
            go_ret
            exact ⟨rfl, HE12.out⟩
        · have HE12 := hid (HE11.out.trans hE12)
          clear hno hE12 HE11
          go_wp2_with fail
          go_ret
          exact ⟨rfl, HE12.out⟩
      · have HWe : Hid (errB (cn N) (ci R) [y] ≠ 0) := errB_out (by rw [HNn.out]; exact hy)
        have K := way_bad a10 (cn N).length c10 a11 (ci R).length c11 y (cn N) (ci R) w11 HN11.out rfl HI11.out rfl (by rw [ci_len, HRn.out]; exact hrb) HWe.out
        have hne2 : (errB (cn N) (ci R) [y] != 0) = true := by simpa using HWe.out
        clear HWe hy
        generalize errB (cn N) (ci R) [y] = er at *
        go_wp2_with fail
        refine K.mono ?_
        clear K
        rintro e w12 ⟨rfl, hE12⟩
        have HE12 := hid (HE11.out.trans hE12)
        clear hE12 HE11
        go_wp2_with fail
        go_ret
        exact ⟨rfl, HE12.out⟩
    | succ q =>
      have hil : i < LO.length := by omega
      obtain ⟨b, o, rfl, hvs⟩ := (HL8.out.keep0 HE.out).at_ (by intro e; rw [← List.length_eq_zero_iff, ci_len] at e; omega)
      rw [ci_len] at hvs
      have k1 := hvs i hil
      rw [ci_get _ _ hil] at k1
      have hxm : LO.getD i 0 ∈ LO := by simp [hil]
      have hxn := (HMem.out _ hxm).1
      have k2 := HE.out.cell (HLs8.out _ hxn) (by simp)
      rw [HSeen.out _ hxm] at k2
      by_cases h0 : i = 0
      · subst h0
        generalize LO.getD 0 0 = x at *
        simp only [Nat.add_zero] at k1
        have hd1 : decide ((x : Int) < 0) = false := by simp
        have hd2 : decide ((n : Int) ≤ (x : Int)) = false := by simp; omega
        have hd7 : decide (n ≤ x) = false := by simp; omega
        have HQ := hid hiq
        clear hvs hxm hiq
        go_wp2_with fail
        go_quiet (fail)
        go_wp2_with fail
        go_roundg q
        case measure => omega
        case rel => exact ⟨0 + 1, by have := HQ.out; omega, by go_num, HE.out.trans (Ext.drewN [] _ _)⟩
      · have k3 := hvs (i - 1) (by omega)
        rw [ci_get _ _ (by omega)] at k3
        have hlt := HRise.out (i - 1) i (by omega) hil
        unfold qa at hlt
        generalize LO.getD i 0 = x at *
        generalize LO.getD (i - 1) 0 = p at *
        have hd1 : decide ((x : Int) < 0) = false := by simp
        have hd2 : decide ((n : Int) ≤ (x : Int)) = false := by simp; omega
        have hd3 : decide ((0 : Int) < (i : Int)) = true := by simp; omega
        have hd4 : decide ((x : Int) ≤ (p : Int)) = false := by simp; omega
        have hd5 : decide (0 < i) = true := by simp; omega
        have hd6 : decide (x ≤ p) = false := by simp; omega
        have hd7 : decide (n ≤ x) = false := by simp; omega
        have hi1' : ((i : Int) - 1) = ((i - 1 : Nat) : Int) := by omega
        have hwi : IntKind.i64.wrap ((i - 1 : Nat) : Int) = ((i - 1 : Nat) : Int) := by rw [IntKind.wrap_i64]; omega
        have hii : ((i - 1 : Nat) : Int) < LO.length := by omega
        have HQ := hid hiq
        clear hvs hxm h0 hiq
        go_wp2_with fail
        go_quiet (fail)
        go_wp2_with fail
        go_roundg q
        case measure => omega
        case rel => exact ⟨i + 1, by have := HQ.out; omega, by go_num, HE.out.trans (Ext.drewN [] _ _)⟩

end reachLost
end Go.Proofs.Ytfjabjnajcfamaa
