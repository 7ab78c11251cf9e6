/-
  The walk through ProbePlays; no statement is proved here.
-/
import Derived.Test.YtljflcjlmgnjjaaPlace
namespace Go.Proofs.Ytljflcjlmgnjjaa
open Go.RowKit

set_option maxRecDepth 100000 in
set_option maxHeartbeats 4000000 in
theorem playsWalk (h : Nat) (G i : Int) (w : World) : Calls Try.prog 3 #[.int .u64 h, .int .i64 G, .int .i64 i] w (SayPost w (.bool true)) := by
  obtain ⟨L, er, hL⟩ := ord_ex h G
  obtain ⟨ra, ea, hA⟩ := at_ex h G i
  obtain ⟨rp, ep, hP⟩ := find_ex h G i
  have hll := ord_len hL
  have HL := hid hL
  have HA := hid hA
  have HP := hid hP
  clear hL hA hP
  have KA := awake_any w
  have K1 := told_any h G L er HL.out w
  go_enter Try.func3, Try.ntmps3
  go_wp2_with fail
  refine met KA ?_
  clear KA
  go_wp2_with fail
  refine K1.mono ?_
  clear K1
  rintro e w1 ⟨v, rfl, hv, _, hE1⟩
  obtain ⟨av, cv, rfl, _⟩ := own_slice hv
  have HE1 := hid hE1
  have HV := hid hv
  have K2 := rseq_any h G L er HL.out w1
  clear hE1 hv
  go_wp2_with fail
  refine K2.mono ?_
  clear K2
  rintro e w2 ⟨a2, c2, rfl, hv2, hE2⟩
  have HE2 := hid (HE1.out.trans hE2)
  have HV1 := hid (HV.out.keep0 hE2)
  have HV2 := hid hv2
  have K3 := seq_any h G L er HL.out w2
  clear hE2 hv2
  go_wp2_with fail
  refine K3.mono ?_
  clear K3
  rintro e w3 ⟨gf, lb, S, rfl, _, hE3⟩
  have HE3 := hid (HE2.out.trans hE3)
  have HV3 := hid (HV1.out.keep0 hE3)
  have HV4 := hid (HV2.out.keep0 hE3)
  have K4 := at_any h G i ra ea HA.out w3
  have K5 := rat_any h G i ra ea HA.out w3
  clear hE3 HE1 HE2 HV HV1 HV2
  go_wp2_with fail
  refine met K4 ?_
  clear K4
  go_wp2_with fail
  refine K5.mono ?_
  clear K5
  rintro e w4 ⟨rfl, hE4⟩
  have HE4 := hid (HE3.out.trans hE4)
  have HV5 := hid (HV3.out.keep0 hE4)
  have HV6 := hid (HV4.out.keep0 hE4)
  have K6 := place_any h G i rp ep HP.out w4
  clear hE4 HE3 HV3 HV4
  go_wp2_with fail
  refine K6.mono ?_
  clear K6
  rintro e w5 ⟨rfl, hE5⟩
  have HE5 := hid (HE4.out.trans hE5)
  have HV7 := hid (HV5.out.keep0 hE5)
  have HV8 := hid (HV6.out.keep0 hE5)
  have K7 := rplace_any h G i rp ep HP.out w5
  clear hE5 HE4 HV5 HV6
  go_wp2_with fail
  refine K7.mono ?_
  clear K7
  rintro e w6 ⟨rfl, hE6⟩
  have HE6 := hid (HE5.out.trans hE6)
  have K8 := sameInts_true av a2 L.length cv c2 (L.map fun x => ((x : Nat) : Int)) w6 (lst_is (HV7.out.keep0 hE6)) (lst_is (HV8.out.keep0 hE6)) (by simp) (by omega)
  clear hE6 HE5
  go_wp2_with fail
  refine K8.mono ?_
  clear K8
  rintro e w7 ⟨rfl, hE7⟩
  have HE7 := hid (HE6.out.trans hE7)
  clear hE7
  go_wp2
  go_ret
  exact ⟨rfl, HE7.out⟩
end Go.Proofs.Ytljflcjlmgnjjaa
