/-
  The function ReachSet walked through; no statement is proved here.
-/
import Derived.Test.YtfjabjnajcfamaaOwn
import Derived.Deep.CutBlock
namespace Go.Proofs.Ytfjabjnajcfamaa
open Go.RowKit

namespace reachSet

/-- What 'closed' says when i nodes were looked at, and k of the next one's numbers. -/
structure Cld (N : List (List Nat)) (R : List Nat) (G : List Bool) (i k : Nat) : Prop where
  len : G.length = N.length
  roots : ∀ x ∈ R, G.getD x false = true
  done : ∀ j, j < i → G.getD j false = true → ∀ y ∈ nxt N j, G.getD y false = true
  part : G.getD i false = true → ∀ y ∈ (nxt N i).take k, G.getD y false = true

set_option maxRecDepth 100000 in
set_option maxHeartbeats 4000000 in
theorem bad (a : Option Addr) (n c : Nat) (ra : Option Addr) (rn rc : Nat) (v : Value) (M : List (List Int)) (R : List Int) (w : World) (hN : Nt w a M) (hn : M.length = n) (hR : Is w ra R) (hrn : R.length = rn) (hrb : rn ≤ 17592186044416) (hne : errB M R [] ≠ 0) :
    Calls Try.prog 4 #[.slice a n c, .slice ra rn rc, v] w (SayPost w (.bool true)) := by
  have HN := hid hN
  have HR := hid hR
  have HNe := hid hne
  have HNn := hid hn
  have HRn := hid hrn
  clear hN hR hne hn hrn
  go_enter Try.func4, Try.ntmps4
  go_wp2_with fail
  refine (awake_any w).mono ?_
  rintro e w1 ⟨rfl, hE1⟩
  have HE1 := hid hE1
  have K := copied_any a n c M w1 (HN.out.keep0 hE1) HNn.out
  clear hE1
  go_wp2_with fail
  refine K.mono ?_
  clear K
  rintro e w2 ⟨a2, c2, rfl, _, hN2, hE2⟩
  have HN2 := hid hN2
  have HE2 := hid (HE1.out.trans hE2)
  have K := own_any ra rn rc R w2 (HR.out.keep0 HE2.out) HRn.out hrb
  clear hN2 hE2 HE1
  go_wp2_with fail
  refine K.mono ?_
  clear K
  rintro e w3 ⟨a3, c3, rfl, _, ho3, hE3⟩
  have K := set_bad a2 M.length c2 a3 R.length c3 M R w3 (HN2.out.keep0 hE3) rfl (own_vs ho3) rfl (by rw [HRn.out]; exact hrb) HNe.out
  have HE3 := hid (HE2.out.trans hE3)
  clear ho3 hE3
  have hne2 : (errB M R [] != 0) = true := by simpa using HNe.out
  generalize errB M R [] = er at *
  go_wp2_with fail
  refine met K ?_
  clear K
  go_wp2_with fail
  go_ret
  exact ⟨rfl, HE3.out⟩

set_option maxRecDepth 100000 in
set_option maxHeartbeats 4000000 in
theorem good (a : Option Addr) (n c : Nat) (ra : Option Addr) (rn rc : Nat) (ga : Option Addr) (gn gc : Nat) (N : List (List Nat)) (R : List Nat) (G : List Bool) (w : World) (hN : Nt w a (cn N)) (hn : N.length = n) (hR : Is w ra (ci R)) (hrn : R.length = rn) (hrb : rn ≤ 17592186044416) (hG : Os w ga G) (hgn : G.length = gn) (hGo : Good N R) :
    Calls Try.prog 4 #[.slice a n c, .slice ra rn rc, .slice ga gn gc] w (SayPost w (.bool true)) := by
  have HN := hid hN
  have HR := hid hR
  have HGo := hid hGo
  have HNn := hid hn
  have HRn := hid hrn
  have HG := hid hG
  have HGn := hid hgn
  clear hN hR hGo hn hrn hG hgn
  go_enter Try.func4, Try.ntmps4
  go_wp2_with fail
  refine (awake_any w).mono ?_
  rintro e w1 ⟨rfl, hE1⟩
  have HE1 := hid hE1
  have K := copied_any a n c (cn N) w1 (HN.out.keep0 hE1) (by rw [cn_len]; exact HNn.out)
  clear hE1
  go_wp2_with fail
  refine K.mono ?_
  clear K
  rintro e w2 ⟨a2, c2, rfl, _, hN2, hE2⟩
  have HN2 := hid hN2
  have HE2 := hid (HE1.out.trans hE2)
  have K := own_any ra rn rc (ci R) w2 (HR.out.keep0 HE2.out) (by rw [ci_len]; exact HRn.out) hrb
  clear hN2 hE2 HE1
  go_wp2_with fail
  refine K.mono ?_
  clear K
  rintro e w3 ⟨a3, c3, rfl, _, ho3, hE3⟩
  have K := set_ok N R a2 (cn N).length c2 a3 (ci R).length c3 w3 (HN2.out.keep0 hE3) (by rw [cn_len]) HGo.out (own_vs ho3) (by rw [ci_len]) (by rw [ci_len, HRn.out]; exact hrb)
  have HE3 := hid (HE2.out.trans hE3)
  clear ho3 hE3 HE2 HN2
  go_wp2_with fail
  refine K.mono ?_
  clear K
  rintro e w4 ⟨v, L, rfl, hB, ho, hE⟩
  have HE4 := hid (HE3.out.trans hE)
  have HB := hid hB
  obtain ⟨av, cv, rfl, _⟩ := own_slice ho
  have HL := hid (show Os w4 av L from own_vs ho)
  have HLn : Hid (L.length = n) := by show _ = _; rw [hB.len, HNn.out]
  rw [HNn.out]
  have HN4 := hid (HN.out.keep0 HE4.out)
  have HR4 := hid (HR.out.keep0 HE4.out)
  have HG4 := hid (HG.out.keep0 HE4.out)
  have hnb : n ≤ 65536 := by have := HGo.out.len; have := HNn.out; omega
  have HRl : Hid (∀ x ∈ R, x < n) := fun x hx => by have := HGo.out.roots x hx; rw [HNn.out] at this; exact this
  have HNl : Hid (∀ i, ∀ x ∈ nxt N i, x < n) := fun i x hx => by have := HGo.out.net.nxt i x hx; rw [HNn.out] at this; exact this
  have HNw : Hid (∀ i, (nxt N i).length ≤ 8192) := HGo.out.slim
  have HLr : Hid (∀ x ∈ R, L.getD x false = true) := fun x hx => (HB.out.mem x (HGo.out.roots x hx)).2 (.root hx (by omega))
  have HLc : Hid (∀ i, i < n → L.getD i false = true → ∀ y ∈ nxt N i, L.getD y false = true) := fun i hi hl y hy => (HB.out.mem y (HGo.out.net.nxt i y hy)).2 (.step ((HB.out.mem i (by rw [HNn.out]; exact hi)).1 hl) hy (by omega))
  have HLe : Hid (∀ G : List Bool, (∀ x ∈ R, G.getD x false = true) → (∀ j, j < n → G.getD j false = true → ∀ y ∈ nxt N j, G.getD y false = true) → ∀ i, i < n → L.getD i false = true → G.getD i false = true) := fun G h1 h2 i hi hl => by
    have hr := (HB.out.mem i (by rw [HNn.out]; exact hi)).1 hl
    refine hr.least (fun x => G.getD x false = true) (fun r hr _ => h1 r hr) (fun x hx y hy _ => ?_)
    by_cases hxn : x < n
    · exact h2 x hxn hx y hy
    · have : nxt N x = [] := by simp [nxt, List.getD, List.getElem?_eq_none (show N.length ≤ x by rw [HNn.out]; omega)]
      rw [this] at hy
      cases hy
  clear hE hB ho HB HE3 HN HR HG HGo
  go_upto_region 9 with fail
  go_loop [9] (fun q => ∃ k : Nat, q = .int .i64 k ∧ k ≤ rn) (fun q => (rn - (intOf q)).toNat)
  case atStart => exact ⟨0, rfl, Nat.zero_le _⟩
  case round =>
    obtain ⟨k, rfl, hk⟩ := hrel
    by_cases hlt : k < rn
    · obtain ⟨b, o, rfl, hc⟩ := HR4.out.cell (j := k) (by rw [ci_len, HRn.out]; exact hlt)
      have hkR : k < R.length := by rw [HRn.out]; exact hlt
      rw [ci_get _ _ hkR] at hc
      have hx := HRl.out (R.getD k 0) (by simp [hkR])
      have hlx := HLr.out (R.getD k 0) (by simp [hkR])
      generalize R.getD k 0 = x at *
      obtain ⟨b2, o2, rfl, hc2⟩ := HL.out.cell (j := x) (by rw [HLn.out]; exact hx)
      rw [hlx] at hc2
      clear hlx hkR
      go_wp2_with fail
      go_round
      case rel => exact ⟨k + 1, by go_num, by omega⟩
      case measure => simp [intOf]; omega
    · clear HLr
      go_upto_block 2 with fail
      clear hlt
      have HS10 : Hid (((gn : Int) == n) = true → G.length = N.length) := fun h => by
        have h1 := HGn.out
        have h2 := HNn.out
        simp at h
        omega
      generalize ((gn : Int) == n) = c0 at *
      go_cut [10] from 54 (fun q wc => w4 = wc ∧ ∃ cl : Bool, q = .bool cl ∧ (cl = true → Cld N R G 0 0))
      case first =>
        go_wp2_with fail
        go_loopw [10, 11] (fun q u wr => w4 = wr ∧ ∃ i : Nat, ∃ cl : Bool, q = .bool cl ∧ u = .int .i64 i ∧ i ≤ rn ∧ (cl = true → G.length = N.length ∧ ∀ x ∈ R.take i, G.getD x false = true)) (fun _ u _ => (rn - (intOf u)).toNat)
        case atStart => exact ⟨rfl, 0, c0, rfl, rfl, Nat.zero_le _, fun h => ⟨HS10.out h, by simp⟩⟩
        case round =>
          obtain ⟨rfl, i, cl, rfl, rfl, hi, hcl⟩ := hrel
          have HCl := hid hcl
          clear hcl
          cases cl
          · go_wp2_with fail
            go_meet
            case rel => exact ⟨by trivial, false, rfl, by simp⟩
          · have HCt := hid (HCl.out rfl)
            clear HCl
            by_cases hlt : i < rn
            · obtain ⟨b, o, rfl, hc⟩ := HR4.out.cell (j := i) (by rw [ci_len, HRn.out]; exact hlt)
              have hkR : i < R.length := by rw [HRn.out]; exact hlt
              rw [ci_get _ _ hkR] at hc
              have hx := HRl.out (R.getD i 0) (by simp [hkR])
              have HTk : Hid (R.take (i + 1) = R.take i ++ [R.getD i 0]) := by
                show _ = _
                rw [List.take_add_one]; simp [hkR]
              generalize R.getD i 0 = x at *
              have hxg : x < gn := by have := (HCt.out).1; have := HGn.out; have := HNn.out; omega
              obtain ⟨b2, o2, rfl, hc2⟩ := HG4.out.cell (j := x) (by rw [HGn.out]; exact hxg)
              clear hkR
              have HGx : Hid (G.getD x false = true → ∀ z ∈ R.take (i + 1), G.getD z false = true) := fun h z hz => by
                rw [HTk.out, List.mem_append, List.mem_singleton] at hz
                rcases hz with hz | rfl
                · exact (HCt.out).2 z hz
                · exact h
              generalize G.getD x false = g at *
              go_wp2_with fail
              go_roundw
              case rel => exact ⟨by trivial, i + 1, g, rfl, by go_num, by omega, fun h => ⟨(HCt.out).1, HGx.out h⟩⟩
              case measure => simp [intOf]; omega
            · go_wp2_with fail
              go_meet
              case rel =>
                refine ⟨by trivial, true, rfl, fun _ => ⟨(HCt.out).1, ?_, by simp, by simp⟩⟩
                have h := (HCt.out).2
                rw [List.take_of_length_le (by rw [HRn.out]; omega)] at h
                exact h
      case rest =>
        clear HS10
        obtain ⟨rfl, cl, rfl, hcl⟩ := hcut
        have HCl := hid hcl
        clear hcl HR4
        go_upto_block 4 with fail
        go_cut [10] from 76 (fun q wc => w4 = wc ∧ ∃ cl : Bool, q = .bool cl ∧ (cl = true → Cld N R G n 0))
        case first =>
          go_wp2_with fail
          go_loopg [10, 12] n (fun g q u wr => w4 = wr ∧ ∃ i : Nat, ∃ cl : Bool, q = .bool cl ∧ u = .int .i64 i ∧ i + g = n ∧ (cl = true → Cld N R G i 0))
          case atStart => exact ⟨rfl, 0, cl, rfl, rfl, by omega, HCl.out⟩
          case round =>
            clear HCl
            obtain ⟨rfl, i, cl, rfl, rfl, hig, hcl⟩ := hrel
            have HCl := hid hcl
            clear hcl
            cases gk with
            | zero =>
              obtain rfl : i = n := by omega
              go_wp2_with fail
              go_meet
              case rel => exact ⟨by trivial, cl, rfl, HCl.out⟩
            | succ g =>
              have hin : i < n := by omega
              obtain ⟨b, o, rfl, hcs⟩ := HN4.out.addr (by rw [cn_len, HNn.out]; omega)
              obtain ⟨fa, fc, hc, hI, _, _⟩ := hcs i (by rw [cn_len, HNn.out]; exact hin)
              rw [cn_get] at hc hI
              rw [ci_len] at hc
              have hw8 := HNw.out i
              have HIx := hid hI
              have HLi := hid (HLc.out i hin)
              obtain ⟨b2, o2, rfl, hls⟩ := HL.out.at_ (by intro e; have := HLn.out; rw [e] at this; simp at this; omega)
              rw [HLn.out] at hls
              have hl1 := hls i hin
              have HLs := hid hls
              clear hls
              have HNx := hid (HNl.out i)
              generalize hlx : (nxt N i).length = lx at *
              have HLx := hid hlx
              clear hcs hI hlx
              go_wp2_with fail
              go_loopg [10, 13] lx (fun g2 q u wr => w4 = wr ∧ ∃ k : Nat, ∃ cl : Bool, q = .bool cl ∧ u = .int .i64 k ∧ k + g2 = lx ∧ (cl = true → Cld N R G i k))
              case atStart => exact ⟨rfl, 0, cl, rfl, rfl, by omega, HCl.out⟩
              case round =>
                clear HCl
                obtain ⟨rfl, k, cl, rfl, rfl, hkg, hcl⟩ := hrel
                have HCl := hid hcl
                clear hcl
                cases gk with
                | zero =>
                  obtain rfl : k = lx := by omega
                  have HCn : Hid (cl = true → Cld N R G (i + 1) 0) := fun h => by
                    have h1 := HCl.out h
                    refine ⟨h1.len, h1.roots, fun j hj hg => ?_, by simp⟩
                    by_cases e : j = i
                    · subst e
                      have := h1.part hg
                      rw [List.take_of_length_le (by rw [HLx.out]; exact Nat.le_refl _)] at this
                      exact this
                    · exact h1.done j (by omega) hg
                  clear HCl
                  go_wp2_with fail
                  go_roundg g
                  case measure => omega
                  case rel => exact ⟨by trivial, i + 1, cl, rfl, by go_num, by omega, HCn.out⟩
                | succ g2 =>
                  have hkl : k < lx := by omega
                  have hkN : k < (nxt N i).length := by rw [HLx.out]; exact hkl
                  obtain ⟨fb, fo, rfl, hy⟩ := HIx.out.cell (j := k) (by rw [ci_len]; exact hkN)
                  rw [ci_get _ _ hkN] at hy
                  have hmem : (nxt N i).getD k 0 ∈ nxt N i := by simp [hkN]
                  have hyn := HNx.out _ hmem
                  have HTk : Hid ((nxt N i).take (k + 1) = (nxt N i).take k ++ [(nxt N i).getD k 0]) := by
                    show _ = _
                    rw [List.take_add_one]; simp [hkN]
                  have HMem := hid hmem
                  clear hmem hkN
                  generalize (nxt N i).getD k 0 = y at *
                  have hl2 := HLs.out y hyn
                  have HLy : Hid (L.getD i false = true → L.getD y false = true) := fun h => HLi.out h y HMem.out
                  have hl1' := hl1
                  have HCn : Hid (cl = true → (G.getD i false = true → G.getD y false = true) → Cld N R G i (k + 1)) := fun h hh => by
                    have h1 := HCl.out h
                    refine ⟨h1.len, h1.roots, h1.done, fun hg z hz => ?_⟩
                    rw [HTk.out, List.mem_append, List.mem_singleton] at hz
                    rcases hz with hz | rfl
                    · exact h1.part hg z hz
                    · exact hh hg
                  cases cl
                  · clear HCl HCn
                    cases hLi : L.getD i false
                    · rw [hLi] at hl1'
                      clear hl1 hLi hl2 HLy
                      go_wp2_with fail
                      go_roundg g2
                      case measure => omega
                      case rel => exact ⟨by trivial, k + 1, false, rfl, by go_num, by omega, by simp⟩
                    · rw [hLi] at hl1'
                      rw [HLy.out hLi] at hl2
                      clear hl1 hLi HLy
                      go_wp2_with fail
                      go_roundg g2
                      case measure => omega
                      case rel => exact ⟨by trivial, k + 1, false, rfl, by go_num, by omega, by simp⟩
                  · have hgn : gn = n := by have := (HCl.out rfl).len; have := HGn.out; have := HNn.out; omega
                    have hG0 : G.length = n := by have := HGn.out; omega
                    obtain ⟨b3, o3, rfl, hgs⟩ := HG4.out.at_ (by intro e; rw [e] at hG0; simp at hG0; omega)
                    rw [hG0] at hgs
                    have hg1 := hgs i hin
                    have hg2 := hgs y hyn
                    have hig2 : (i : Int) < gn := by omega
                    have hyg2 : (y : Int) < gn := by omega
                    have HCm := hid (HCn.out rfl)
                    clear HCl HCn hgs hG0 hgn
                    cases hLi : L.getD i false
                    · rw [hLi] at hl1'
                      clear hl1 hLi hl2 HLy
                      cases hGi : G.getD i false
                      · rw [hGi] at hg1 HCm
                        clear hGi hg2
                        go_wp2_with fail
                        go_roundg g2
                        case measure => omega
                        case rel => exact ⟨by trivial, k + 1, true, rfl, by go_num, by omega, fun _ => HCm.out (by simp)⟩
                      · rw [hGi] at hg1
                        clear hGi
                        generalize G.getD y false = gy at *
                        go_wp2_with fail
                        go_roundg g2
                        case measure => omega
                        case rel => exact ⟨by trivial, k + 1, gy, rfl, by go_num, by omega, fun h => HCm.out (fun _ => h)⟩
                    · rw [hLi] at hl1'
                      rw [HLy.out hLi] at hl2
                      clear hl1 hLi HLy
                      cases hGi : G.getD i false
                      · rw [hGi] at hg1 HCm
                        clear hGi hg2
                        go_wp2_with fail
                        go_roundg g2
                        case measure => omega
                        case rel => exact ⟨by trivial, k + 1, true, rfl, by go_num, by omega, fun _ => HCm.out (by simp)⟩
                      · rw [hGi] at hg1
                        clear hGi
                        generalize G.getD y false = gy at *
                        go_wp2_with fail
                        go_roundg g2
                        case measure => omega
                        case rel => exact ⟨by trivial, k + 1, gy, rfl, by go_num, by omega, fun h => HCm.out (fun _ => h)⟩
        case rest =>
          clear HCl HLc HNw HNl HRl
          obtain ⟨rfl, cl, rfl, hcl⟩ := hcut
          have HCl := hid hcl
          clear hcl
          cases cl
          · go_wp2_with fail
            go_loopw [14] (fun q wr => w4 = wr ∧ q = .int .i64 0) (fun _ _ => 0)
            case atStart => exact ⟨rfl, rfl⟩
            case round =>
              obtain ⟨rfl, rfl⟩ := hrel
              go_wp2_with fail
              go_ret
              exact ⟨rfl, HE4.out⟩
          · have HCd := hid (HCl.out rfl)
            have hgn : gn = n := by have := HCd.out.len; have := HGn.out; have := HNn.out; omega
            subst hgn
            have HLg := hid (HLe.out G HCd.out.roots (fun j hj => HCd.out.done j hj))
            clear HCl HLe
            go_wp2_with fail
            go_loopw [14] (fun q wr => w4 = wr ∧ ∃ i : Nat, q = .int .i64 i ∧ i ≤ gn) (fun q _ => (gn - (intOf q)).toNat)
            case atStart => exact ⟨rfl, 0, rfl, Nat.zero_le _⟩
            case round =>
              obtain ⟨rfl, i, rfl, hi⟩ := hrel
              by_cases hlt : i < gn
              · obtain ⟨b2, o2, rfl, hl1⟩ := HL.out.cell (j := i) (by rw [HLn.out]; exact hlt)
                obtain ⟨b3, o3, rfl, hg1⟩ := HG4.out.cell (j := i) (by rw [HGn.out]; exact hlt)
                cases hLi : L.getD i false
                · rw [hLi] at hl1
                  clear hLi hg1
                  go_wp2_with fail
                  go_roundw
                  case rel => exact ⟨by trivial, i + 1, by go_num, by omega⟩
                  case measure => simp [intOf]; omega
                · rw [HLg.out i hlt hLi] at hg1
                  rw [hLi] at hl1
                  clear hLi
                  go_wp2_with fail
                  go_roundw
                  case rel => exact ⟨by trivial, i + 1, by go_num, by omega⟩
                  case measure => simp [intOf]; omega
              · go_wp2_with fail
                go_ret
                exact ⟨rfl, HE4.out⟩

end reachSet
end Go.Proofs.Ytfjabjnajcfamaa
