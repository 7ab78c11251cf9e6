/-
  The function ReachWay walked through; no statement is proved here.
-/
import Derived.Test.YtfjabjnajcfamaaWay
import Derived.Test.YtfjabjnajcfamaaLeads
namespace Go.Proofs.Ytfjabjnajcfamaa
open Go.RowKit

theorem errB_ne {M : List (List Int)} {R T : List Int} (h : errB M R [] ≠ 0) : errB M R T ≠ 0 := fun h0 => by
  obtain ⟨N, R', T', rfl, rfl, rfl, hG, _⟩ := err_good h0
  exact h (good_err (T := []) hG (by intro x hx; cases hx))
theorem errB_out {N : List (List Nat)} {R : List Nat} {x : Int} (h : ¬ (0 ≤ x ∧ x < N.length)) : errB (cn N) (ci R) [x] ≠ 0 := fun h0 => by
  obtain ⟨N', R', T', h1, _, h3, _, h5⟩ := err_good h0
  obtain ⟨y, hy⟩ : ∃ y, T' = [y] := by
    have : (ci T').length = 1 := by rw [← h3]; rfl
    rw [ci_len] at this
    match T', this with
    | [y], _ => exact ⟨y, rfl⟩
  subst hy
  have hx : x = (y : Int) := by simpa [ci] using h3
  have hl : N.length = N'.length := by rw [← cn_len N, h1, cn_len]
  have := h5 y (by simp)
  omega

namespace reachWay

set_option maxRecDepth 100000 in
set_option maxHeartbeats 4000000 in
theorem bad (a : Option Addr) (n c : Nat) (ra : Option Addr) (rn rc : Nat) (x : Int) (ov : Value) (M : List (List Int)) (R : List Int) (w : World) (hN : Nt w a M) (hn : M.length = n) (hR : Is w ra R) (hrn : R.length = rn) (hrb : rn ≤ 17592186044416) (hne : errB M R [] ≠ 0) :
    Calls Try.prog 5 #[.slice a n c, .slice ra rn rc, .int .i64 x, ov] w (SayPost w (.bool true)) := by
  have HN := hid hN
  have HR := hid hR
  have HNe := hid hne
  have HNn := hid hn
  have HRn := hid hrn
  have HW := hid (errB_ne (T := [x]) hne)
  clear hN hR hne hn hrn
  go_enter Try.func5, Try.ntmps5
  go_wp2_with fail
  refine (awake_any w).mono ?_
  rintro e w1 ⟨rfl, hE1⟩
  have HE1 := hid hE1
  have K := copied_any a n c M w1 (HN.out.keep0 hE1) HNn.out
  clear hE1
  go_wp2_with fail
  refine K.mono ?_
  clear K
  rintro e w2 ⟨a2, c2, rfl, _, hN2, hE2⟩
  have HN2 := hid hN2
  have HE2 := hid (HE1.out.trans hE2)
  have K := own_any ra rn rc R w2 (HR.out.keep0 HE2.out) HRn.out hrb
  clear hN2 hE2 HE1
  go_wp2_with fail
  refine K.mono ?_
  clear K
  rintro e w3 ⟨a3, c3, rfl, _, ho3, hE3⟩
  have K := way_bad a2 M.length c2 a3 R.length c3 x M R w3 (HN2.out.keep0 hE3) rfl (own_vs ho3) rfl (by rw [HRn.out]; exact hrb) HW.out
  have HE3 := hid (HE2.out.trans hE3)
  have hne2 : (errB M R [x] != 0) = true := by simpa using HW.out
  have hne4 : (errB M R [x] == 0) = false := beq_false_of_ne HW.out
  clear ho3 hE3 HW HE2 HN2
  generalize errB M R [x] = er at *
  go_wp2_with fail
  refine K.mono ?_
  clear K
  rintro e w4 ⟨rfl, hE4⟩
  have HE4 := hid (HE3.out.trans hE4)
  have K := copied_any a n c M w4 (HN.out.keep0 HE4.out) HNn.out
  clear hE4 HE3
  go_wp2_with fail
  refine K.mono ?_
  clear K
  rintro e w5 ⟨a5, c5, rfl, _, hN5, hE5⟩
  have HN5 := hid hN5
  have HE5 := hid (HE4.out.trans hE5)
  have K := own_any ra rn rc R w5 (HR.out.keep0 HE5.out) HRn.out hrb
  clear hN5 hE5 HE4
  go_wp2_with fail
  refine K.mono ?_
  clear K
  rintro e w6 ⟨a6, c6, rfl, _, ho6, hE6⟩
  have K := set_bad a5 M.length c5 a6 R.length c6 M R w6 (HN5.out.keep0 hE6) rfl (own_vs ho6) rfl (by rw [HRn.out]; exact hrb) HNe.out
  have HE6 := hid (HE5.out.trans hE6)
  have hne3 : (errB M R [] != 0) = true := by simpa using HNe.out
  clear ho6 hE6 HE5 HN5
  generalize errB M R [] = er2 at *
  go_wp2_with fail
  refine met K ?_
  clear K
  go_wp2_with fail
  go_ret
  exact ⟨rfl, HE6.out⟩

set_option maxRecDepth 100000 in
set_option maxHeartbeats 4000000 in
theorem outside (a : Option Addr) (n c : Nat) (ra : Option Addr) (rn rc : Nat) (x : Int) (ov : Value) (N : List (List Nat)) (R : List Nat) (w : World) (hN : Nt w a (cn N)) (hn : N.length = n) (hR : Is w ra (ci R)) (hrn : R.length = rn) (hrb : rn ≤ 17592186044416) (hGo : Good N R) (hx : ¬ (0 ≤ x ∧ x < n)) :
    Calls Try.prog 5 #[.slice a n c, .slice ra rn rc, .int .i64 x, ov] w (SayPost w (.bool true)) := by
  have HN := hid hN
  have HR := hid hR
  have HGo := hid hGo
  have HNn := hid hn
  have HRn := hid hrn
  have HW : Hid (errB (cn N) (ci R) [x] ≠ 0) := errB_out (by rw [hn]; exact hx)
  clear hN hR hGo hn hrn
  go_enter Try.func5, Try.ntmps5
  go_wp2_with fail
  refine (awake_any w).mono ?_
  rintro e w1 ⟨rfl, hE1⟩
  have HE1 := hid hE1
  have K := copied_any a n c (cn N) w1 (HN.out.keep0 hE1) (by rw [cn_len]; exact HNn.out)
  clear hE1
  go_wp2_with fail
  refine K.mono ?_
  clear K
  rintro e w2 ⟨a2, c2, rfl, _, hN2, hE2⟩
  have HN2 := hid hN2
  have HE2 := hid (HE1.out.trans hE2)
  have K := own_any ra rn rc (ci R) w2 (HR.out.keep0 HE2.out) (by rw [ci_len]; exact HRn.out) hrb
  clear hN2 hE2 HE1
  go_wp2_with fail
  refine K.mono ?_
  clear K
  rintro e w3 ⟨a3, c3, rfl, _, ho3, hE3⟩
  have K := way_bad a2 (cn N).length c2 a3 (ci R).length c3 x (cn N) (ci R) w3 (HN2.out.keep0 hE3) rfl (own_vs ho3) rfl (by rw [ci_len, HRn.out]; exact hrb) HW.out
  have HE3 := hid (HE2.out.trans hE3)
  have hne2 : (errB (cn N) (ci R) [x] != 0) = true := by simpa using HW.out
  have hne4 : (errB (cn N) (ci R) [x] == 0) = false := beq_false_of_ne HW.out
  clear ho3 hE3 HW HE2 HN2
  generalize errB (cn N) (ci R) [x] = er at *
  go_wp2_with fail
  refine K.mono ?_
  clear K
  rintro e w4 ⟨rfl, hE4⟩
  have HE4 := hid (HE3.out.trans hE4)
  have K := copied_any a n c (cn N) w4 (HN.out.keep0 HE4.out) (by rw [cn_len]; exact HNn.out)
  clear hE4 HE3
  go_wp2_with fail
  refine K.mono ?_
  clear K
  rintro e w5 ⟨a5, c5, rfl, _, hN5, hE5⟩
  have HN5 := hid hN5
  have HE5 := hid (HE4.out.trans hE5)
  have K := own_any ra rn rc (ci R) w5 (HR.out.keep0 HE5.out) (by rw [ci_len]; exact HRn.out) hrb
  clear hN5 hE5 HE4
  go_wp2_with fail
  refine K.mono ?_
  clear K
  rintro e w6 ⟨a6, c6, rfl, _, ho6, hE6⟩
  have K := set_ok N R a5 (cn N).length c5 a6 (ci R).length c6 w6 (HN5.out.keep0 hE6) (by rw [cn_len]) HGo.out (own_vs ho6) (by rw [ci_len]) (by rw [ci_len, HRn.out]; exact hrb)
  have HE6 := hid (HE5.out.trans hE6)
  clear ho6 hE6 HE5 HN5
  go_wp2_with fail
  refine K.mono ?_
  clear K
  rintro e w7 ⟨v, L, rfl, hB, ho, hE⟩
  have HE7 := hid (HE6.out.trans hE)
  obtain ⟨av, cv, rfl, _⟩ := own_slice ho
  clear hB ho hE HE6
  by_cases h0 : x < 0
  · go_wp2_with fail
    go_ret
    exact ⟨rfl, HE7.out⟩
  · have h1 : (n : Int) ≤ x := by omega
    clear hx
    go_wp2_with fail
    go_ret
    exact ⟨rfl, HE7.out⟩

set_option maxRecDepth 100000 in
set_option maxHeartbeats 4000000 in
theorem good (a : Option Addr) (n c : Nat) (ra : Option Addr) (rn rc : Nat) (tg : Nat) (xa : Option Addr) (xn xc : Nat) (X : List Int) (N : List (List Nat)) (R : List Nat) (w : World) (hN : Nt w a (cn N)) (hn : N.length = n) (hR : Is w ra (ci R)) (hrn : R.length = rn) (hrb : rn ≤ 17592186044416) (hGo : Good N R) (hto : tg < n) (hX : Is w xa X) (hxn : X.length = xn) (hxb : xn ≤ 17592186044416) :
    Calls Try.prog 5 #[.slice a n c, .slice ra rn rc, .int .i64 tg, .slice xa xn xc] w (SayPost w (.bool true)) := by
  have HN := hid hN
  have HR := hid hR
  have HGo := hid hGo
  have HNn := hid hn
  have HRn := hid hrn
  have HX := hid hX
  have HXn := hid hxn
  have hnb : n ≤ 65536 := by have := hGo.len; omega
  clear hN hR hGo hn hrn hX hxn
  go_enter Try.func5, Try.ntmps5
  go_wp2_with fail
  refine (awake_any w).mono ?_
  rintro e w1 ⟨rfl, hE1⟩
  have HE1 := hid hE1
  have K := copied_any a n c (cn N) w1 (HN.out.keep0 hE1) (by rw [cn_len]; exact HNn.out)
  clear hE1
  go_wp2_with fail
  refine K.mono ?_
  clear K
  rintro e w2 ⟨a2, c2, rfl, _, hN2, hE2⟩
  have HN2 := hid hN2
  have HE2 := hid (HE1.out.trans hE2)
  have K := own_any ra rn rc (ci R) w2 (HR.out.keep0 HE2.out) (by rw [ci_len]; exact HRn.out) hrb
  clear hN2 hE2 HE1
  go_wp2_with fail
  refine K.mono ?_
  clear K
  rintro e w3 ⟨a3, c3, rfl, _, ho3, hE3⟩
  have K := way_any N R tg a2 (cn N).length c2 a3 (ci R).length c3 w3 (HN2.out.keep0 hE3) (by rw [cn_len]) HGo.out (own_vs ho3) (by rw [ci_len]) (by rw [ci_len, HRn.out]; exact hrb) (by rw [cn_len, HNn.out]; exact hto)
  have HE3 := hid (HE2.out.trans hE3)
  have HK : Hid (∀ W, Ext [] w W → Calls Try.prog 11 #[.slice a n c] W (CpPost W (cn N))) := fun W h => copied_any a n c (cn N) W (HN.out.keep0 h) (by rw [cn_len]; exact HNn.out)
  have HK2 : Hid (∀ W, Ext [] w W → Calls Try.prog 12 #[.slice ra rn rc] W (OwPost W (ci R))) := fun W h => own_any ra rn rc (ci R) W (HR.out.keep0 h) (by rw [ci_len]; exact HRn.out) hrb
  clear ho3 hE3 HE2 HN2
  go_wp2_with fail
  refine K.mono ?_
  clear K
  rintro e w4 (⟨u, au, cu, hBest, hul, rfl, hou, hE4⟩ | ⟨hno, rfl, hE4⟩)
  · have HBest := hid hBest
    have HU := hid (show Is w4 au (ci u) from own_vs hou)
    have HE4 := hid (HE3.out.trans hE4)
    have K := HK.out w4 HE4.out
    have hul2 : u.length ≤ 65537 := by have := HNn.out; omega
    clear hBest hou hE4 HE3 hul
    go_wp2_with fail
    refine K.mono ?_
    clear K
    rintro e w5 ⟨a5, c5, rfl, _, hN5, hE5⟩
    have HN5 := hid hN5
    have HE5 := hid (HE4.out.trans hE5)
    have HU5 := hid (HU.out.keep0 hE5)
    have K := HK2.out w5 HE5.out
    clear hN5 hE5 HE4 HU
    go_wp2_with fail
    refine K.mono ?_
    clear K
    rintro e w6 ⟨a6, c6, rfl, _, ho6, hE6⟩
    have K := set_ok N R a5 (cn N).length c5 a6 (ci R).length c6 w6 (HN5.out.keep0 hE6) (by rw [cn_len]) HGo.out (own_vs ho6) (by rw [ci_len]) (by rw [ci_len, HRn.out]; exact hrb)
    have HE6 := hid (HE5.out.trans hE6)
    have HU6 := hid (HU5.out.keep0 hE6)
    clear ho6 hE6 HE5 HN5 HU5 HK HK2
    go_wp2_with fail
    refine K.mono ?_
    clear K
    rintro e w7 ⟨v, L, rfl, hB, ho, hE⟩
    have HE7 := hid (HE6.out.trans hE)
    have HU7 := hid (HU6.out.keep0 hE)
    obtain ⟨av, cv, rfl, _⟩ := own_slice ho
    have hlt : L.getD tg false = true := (hB.mem tg (by rw [HNn.out]; exact hto)).2 HBest.out.wy.rch
    obtain ⟨lb, lo, rfl, kl⟩ := Os.cell (show Os w7 av L from own_vs ho) (j := tg) (by rw [hB.len, HNn.out]; exact hto)
    rw [hlt] at kl
    have K1 := leads_any N R tg a n c ra rn rc au u.length cu (ci u) w7 (HN.out.keep0 HE7.out) HNn.out hnb (HR.out.keep0 HE7.out) HRn.out hrb HU7.out (ci_len u) (by omega)
    have HK2 : Hid (∀ W, Ext [] w W → Calls Try.prog 23 #[.slice a n c, .slice ra rn rc, .int .i64 tg, .slice xa xn xc] W (LdPost W N R X tg)) := fun W h => leads_any N R tg a n c ra rn rc xa xn xc X W (HN.out.keep0 h) HNn.out hnb (HR.out.keep0 h) HRn.out hrb (HX.out.keep0 h) HXn.out hxb
    rw [HNn.out]
    clear hB ho hE HE6 HU6 hlt
    go_wp2_with fail
    refine K1.mono ?_
    clear K1
    rintro e w8 ⟨b, rfl, hE8, hb⟩
    have hbt : b = true := hb.2 (Wx.of HGo.out.net HGo.out.roots HBest.out.wy)
    subst hbt
    have HE8 := hid (HE7.out.trans hE8)
    have K2 := HK2.out w8 HE8.out
    clear hb hE8 HE7 kl HU7 HK2
    go_wp2_with fail
    refine K2.mono ?_
    clear K2
    rintro e w9 ⟨b2, rfl, hE9, hb2⟩
    have HE9 := hid (HE8.out.trans hE9)
    cases b2
    · clear hb2 hE9
      go_wp2_with fail
      go_ret
      exact ⟨rfl, HE9.out⟩
    · have hle : u.length ≤ xn := by
        obtain ⟨v, hv, hw⟩ := (hb2.1 rfl).way
        have h1 := wle_len (HBest.out.min v hw)
        have h2 := HXn.out
        rw [hv, ci_len] at h2
        omega
      clear hb2 hE9
      go_wp2_with fail
      go_ret
      exact ⟨rfl, HE9.out⟩
  · have HNo := hid hno
    have HE4 := hid (HE3.out.trans hE4)
    have K := HK.out w4 HE4.out
    clear hno hE4 HE3
    go_wp2_with fail
    refine K.mono ?_
    clear K
    rintro e w5 ⟨a5, c5, rfl, _, hN5, hE5⟩
    have HN5 := hid hN5
    have HE5 := hid (HE4.out.trans hE5)
    have K := HK2.out w5 HE5.out
    clear hN5 hE5 HE4
    go_wp2_with fail
    refine K.mono ?_
    clear K
    rintro e w6 ⟨a6, c6, rfl, _, ho6, hE6⟩
    have K := set_ok N R a5 (cn N).length c5 a6 (ci R).length c6 w6 (HN5.out.keep0 hE6) (by rw [cn_len]) HGo.out (own_vs ho6) (by rw [ci_len]) (by rw [ci_len, HRn.out]; exact hrb)
    have HE6 := hid (HE5.out.trans hE6)
    clear ho6 hE6 HE5 HN5 HK HK2
    go_wp2_with fail
    refine K.mono ?_
    clear K
    rintro e w7 ⟨v, L, rfl, hB, ho, hE⟩
    have HE7 := hid (HE6.out.trans hE)
    obtain ⟨av, cv, rfl, _⟩ := own_slice ho
    have hlt : L.getD tg false = false := by
      have h1 := (hB.mem tg (by rw [HNn.out]; exact hto)).1
      cases hq : L.getD tg false
      · rfl
      · exact absurd (h1 hq) HNo.out
    obtain ⟨lb, lo, rfl, kl⟩ := Os.cell (show Os w7 av L from own_vs ho) (j := tg) (by rw [hB.len, HNn.out]; exact hto)
    rw [hlt] at kl
    rw [HNn.out]
    clear hB ho hE HE6 hlt
    go_wp2_with fail
    go_ret
    exact ⟨rfl, HE7.out⟩

end reachWay
end Go.Proofs.Ytfjabjnajcfamaa
