/-
  The function ReachPlays walked through; no statement is proved here.
-/
import Derived.Test.YtfjabjnajcfamaaBoth
namespace Go.Proofs.Ytfjabjnajcfamaa.reachPlays
open Go.RowKit

set_option maxRecDepth 100000 in
set_option maxHeartbeats 8000000 in
theorem walk (a : Option Addr) (n c : Nat) (M : List (List Int)) (ra : Option Addr) (rn rc : Nat) (R : List Int) (x : Int) (w : World) (hA : Arg w a n ra rn M R) :
    Calls Try.prog 3 #[.slice a n c, .slice ra rn rc, .int .i64 x] w (SayPost w (.bool true)) := by
  have HA := hid hA
  have HK : Hid (∀ W, Ext [] w W → Calls Try.prog 11 #[.slice a n c] W (CpPost W M)) := fun W h => copied_any a n c M W (hA.net.keep0 h) hA.len
  have HK2 : Hid (∀ W, Ext [] w W → Calls Try.prog 12 #[.slice ra rn rc] W (OwPost W R)) := fun W h => own_any ra rn rc R W (hA.roots.keep0 h) hA.rlen (by have := hA.rb; omega)
  have HRb : Hid (R.length ≤ 1048576) := by have h1 := hA.rlen; have h2 := hA.rb; show _ ≤ _; omega
  clear hA
  go_enter Try.func3, Try.ntmps3
  go_wp2_with fail
  refine (awake_any w).mono ?_
  rintro e w1 ⟨rfl, hE1⟩
  have HE1 := hid hE1
  have K := HK.out w1 hE1
  clear hE1
  go_wp2_with fail
  refine K.mono ?_
  clear K
  rintro e w2 ⟨a2, c2, rfl, _, hN2, hE2⟩
  have HN2 := hid hN2
  have HE2 := hid (HE1.out.trans hE2)
  have K := HK2.out w2 HE2.out
  clear hN2 hE2 HE1
  go_wp2_with fail
  refine K.mono ?_
  clear K
  rintro e w3 ⟨a3, c3, rfl, _, ho3, hE3⟩
  have K := set_u a2 M.length c2 a3 R.length c3 M R w3 ⟨HN2.out.keep0 hE3, rfl, own_vs ho3, rfl, HRb.out⟩
  have HE3 := hid (HE2.out.trans hE3)
  clear ho3 hE3 HE2 HN2
  go_wp2_with fail
  refine K.mono ?_
  clear K
  rintro e w4 ⟨LA, eA, aA, cA, hPA, rfl, hOA, hlA, hE4⟩
  have HPA := hid hPA
  have HOA := hid hOA
  have HE4 := hid (HE3.out.trans hE4)
  have K := rset_u a n c ra rn rc M R w4 (HA.out.keep0 HE4.out)
  clear hPA hOA hE4 HE3
  go_wp2_with fail
  refine K.mono ?_
  clear K
  rintro e w5 ⟨LB, eB, aB, cB, hPB, rfl, hOB, hlB, hE5⟩
  obtain ⟨h1, h2⟩ := HPA.out.det hPB
  subst h1; subst h2
  have HOA5 := hid (HOA.out.keep0 hE5)
  have HOB := hid hOB
  have HE5 := hid (HE4.out.trans hE5)
  have K := HK.out w5 HE5.out
  clear hPB hOB hE5 HE4 HOA HPA hlB
  go_wp2_with fail
  refine K.mono ?_
  clear K
  rintro e w6 ⟨a6, c6, rfl, _, hN6, hE6⟩
  have HN6 := hid hN6
  have HE6 := hid (HE5.out.trans hE6)
  have HOA6 := hid (HOA5.out.keep0 hE6)
  have HOB6 := hid (HOB.out.keep0 hE6)
  have K := HK2.out w6 HE6.out
  clear hN6 hE6 HE5 HOA5 HOB
  go_wp2_with fail
  refine K.mono ?_
  clear K
  rintro e w7 ⟨a7, c7, rfl, _, ho7, hE7⟩
  have K := way_u a6 M.length c6 a7 R.length c7 x M R w7 ⟨HN6.out.keep0 hE7, rfl, own_vs ho7, rfl, HRb.out⟩
  have HE7 := hid (HE6.out.trans hE7)
  have HOA7 := hid (HOA6.out.keep0 hE7)
  have HOB7 := hid (HOB6.out.keep0 hE7)
  clear ho7 hE7 HE6 HN6 HOA6 HOB6
  go_wp2_with fail
  refine K.mono ?_
  clear K
  rintro e w8 ⟨LC, eC, aC, cC, hPC, rfl, hOC, hlC, hE8⟩
  have HPC := hid hPC
  have HOC := hid hOC
  have HE8 := hid (HE7.out.trans hE8)
  have HOA8 := hid (HOA7.out.keep0 hE8)
  have HOB8 := hid (HOB7.out.keep0 hE8)
  have K := rway_u a n c ra rn rc x M R w8 (HA.out.keep0 HE8.out)
  clear hPC hOC hE8 HE7 HOA7 HOB7
  go_wp2_with fail
  refine K.mono ?_
  clear K
  rintro e w9 ⟨LD, eD, aD, cD, hPD, rfl, hOD, hE9⟩
  obtain ⟨h1, h2⟩ := PW'.det HPC.out hPD
  subst h1; subst h2
  have HE9 := hid (HE8.out.trans hE9)
  have HOC9 := hid (HOC.out.keep0 hE9)
  have HOD9 := hid hOD
  have K := sameBools_true aA aB LA.length cA cB LA w9 (HOA8.out.keep0 hE9) (HOB8.out.keep0 hE9) rfl (by omega)
  have hee : (eA != eA) = false := by simp
  have hgg : (eC != eC) = false := by simp
  clear hPD hOD hE9 HE8 HPC HOA8 HOB8 HOC
  go_wp2_with fail
  refine K.mono ?_
  clear K
  rintro e w10 ⟨rfl, hE10⟩
  have HE10 := hid (HE9.out.trans hE10)
  have K := sameInts_true aC aD LC.length cC cD LC w10 (HOC9.out.keep0 hE10) (HOD9.out.keep0 hE10) rfl (by omega)
  clear hE10 HE9 HOC9 HOD9
  go_wp2_with fail
  refine K.mono ?_
  clear K
  rintro e w11 ⟨rfl, hE11⟩
  have HE11 := hid (HE10.out.trans hE11)
  have K := HK.out w11 HE11.out
  clear hE11 HE10
  go_wp2_with fail
  refine K.mono ?_
  clear K
  rintro e w12 ⟨a12, c12, rfl, _, hN12, hE12⟩
  have HN12 := hid hN12
  have HE12 := hid (HE11.out.trans hE12)
  have K := HK2.out w12 HE12.out
  clear hN12 hE12 HE11
  go_wp2_with fail
  refine K.mono ?_
  clear K
  rintro e w13 ⟨a13, c13, rfl, _, ho13, hE13⟩
  have K := lost_u a12 M.length c12 a13 R.length c13 x M R w13 ⟨HN12.out.keep0 hE13, rfl, own_vs ho13, rfl, HRb.out⟩
  have HE13 := hid (HE12.out.trans hE13)
  clear ho13 hE13 HE12 HN12
  go_wp2_with fail
  refine K.mono ?_
  clear K
  rintro e w14 ⟨LE, eE, aE, cE, hPE, rfl, hOE, hlE, hE14⟩
  have HPE := hid hPE
  have HOE := hid hOE
  have HE14 := hid (HE13.out.trans hE14)
  have K := rlost_u a n c ra rn rc x M R w14 (HA.out.keep0 HE14.out)
  clear hPE hOE hE14 HE13
  go_wp2_with fail
  refine K.mono ?_
  clear K
  rintro e w15 ⟨LF, eF, aF, cF, hPF, rfl, hOF, hlF, hE15⟩
  obtain ⟨h1, h2⟩ := HPE.out.det hPF
  subst h1; subst h2
  have HOE15 := hid (HOE.out.keep0 hE15)
  have HOF15 := hid hOF
  have HE15 := hid (HE14.out.trans hE15)
  have K := HK.out w15 HE15.out
  clear hPF hOF hE15 HE14 HOE HPE hlF
  go_wp2_with fail
  refine K.mono ?_
  clear K
  rintro e w16 ⟨a16, c16, rfl, _, hN16, hE16⟩
  have HN16 := hid hN16
  have HE16 := hid (HE15.out.trans hE16)
  have HOE16 := hid (HOE15.out.keep0 hE16)
  have HOF16 := hid (HOF15.out.keep0 hE16)
  have K := HK2.out w16 HE16.out
  clear hN16 hE16 HE15 HOE15 HOF15
  go_wp2_with fail
  refine K.mono ?_
  clear K
  rintro e w17 ⟨a17, c17, rfl, _, ho17, hE17⟩
  have K := order_u a16 M.length c16 a17 R.length c17 M R w17 ⟨HN16.out.keep0 hE17, rfl, own_vs ho17, rfl, HRb.out⟩
  have HE17 := hid (HE16.out.trans hE17)
  have HOE17 := hid (HOE16.out.keep0 hE17)
  have HOF17 := hid (HOF16.out.keep0 hE17)
  clear ho17 hE17 HE16 HN16 HOE16 HOF16
  go_wp2_with fail
  refine K.mono ?_
  clear K
  rintro e w18 ⟨v18, rfl, hE18⟩
  have HE18 := hid (HE17.out.trans hE18)
  have HOE18 := hid (HOE17.out.keep0 hE18)
  have HOF18 := hid (HOF17.out.keep0 hE18)
  have K := told_u a n c ra rn rc M R w18 (HA.out.keep0 HE18.out)
  clear hE18 HE17 HOE17 HOF17
  go_wp2_with fail
  refine K.mono ?_
  clear K
  rintro e w19 ⟨LG, aG, cG, hPG, rfl, hOG, hlG, hE19⟩
  have HPG := hid hPG
  have HOG := hid hOG
  have HE19 := hid (HE18.out.trans hE19)
  have HOE19 := hid (HOE18.out.keep0 hE19)
  have HOF19 := hid (HOF18.out.keep0 hE19)
  have K := rorder_u a n c ra rn rc M R w19 (HA.out.keep0 HE19.out)
  clear hPG hOG hE19 HE18 HOE18 HOF18
  generalize errB M R [] = er at *
  go_wp2_with fail
  refine K.mono ?_
  clear K
  rintro e w20 ⟨LH, eH, aH, cH, hPH, rfl, hOH, hE20⟩
  obtain ⟨h1, h2⟩ := HPG.out.det hPH
  subst h1; subst h2
  have HE20 := hid (HE19.out.trans hE20)
  have HOG20 := hid (HOG.out.keep0 hE20)
  have HOH20 := hid hOH
  have K := sameInts_true aE aF LE.length cE cF LE w20 (HOE19.out.keep0 hE20) (HOF19.out.keep0 hE20) rfl (by omega)
  have he1 : (eE == eE) = true := by simp
  have he2 : (er == er) = true := by simp
  clear hPH hOH hE20 HE19 HPG HOE19 HOF19 HOG
  go_wp2_with fail
  refine K.mono ?_
  clear K
  rintro e w21 ⟨rfl, hE21⟩
  have HE21 := hid (HE20.out.trans hE21)
  have K := sameInts_true aG aH LG.length cG cH LG w21 (HOG20.out.keep0 hE21) (HOH20.out.keep0 hE21) rfl (by omega)
  clear hE21 HE20 HOG20 HOH20
  go_wp2_with fail
  refine K.mono ?_
  clear K
  rintro e w22 ⟨rfl, hE22⟩
  have HE22 := hid (HE21.out.trans hE22)
  clear hE22 HE21
  go_wp2_with fail
  go_ret
  exact ⟨rfl, HE22.out⟩

end Go.Proofs.Ytfjabjnajcfamaa.reachPlays
