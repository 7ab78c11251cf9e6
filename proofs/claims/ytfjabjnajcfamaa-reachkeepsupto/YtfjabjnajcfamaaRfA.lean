/-
  The reference's Bad; no statement is proved here.
-/
import Derived.Test.YtfjabjnajcfamaaWay
import Derived.Deep.CutBlock
namespace Go.Proofs.Ytfjabjnajcfamaa
open Go.RowKit

theorem errB_app {M : List (List Int)} {R : List Int} {x : Int} : errB M (R ++ [x]) [] = errB M R [x] := by
  have h1 : inN M.length (R ++ [x]) = (inN M.length R && inN M.length [x]) := by simp [inN]
  have h2 : inN M.length [] = true := by simp [inN]
  unfold errB
  rw [h1, h2]
  cases soundB M <;> cases inN M.length R <;> cases inN M.length [x] <;> rfl

set_option maxRecDepth 100000 in
set_option maxHeartbeats 4000000 in
theorem rbad_any (a : Option Addr) (n c : Nat) (ra : Option Addr) (rn rc : Nat) (M : List (List Int)) (R : List Int) (w : World) (hN : Nt w a M) (hn : M.length = n) (hR : Is w ra R) (hrn : R.length = rn) (hrb : rn ≤ 17592186044416) :
    Calls Try.prog 30 #[.slice a n c, .slice ra rn rc] w fun e w' => e = .returned (.int .i64 (errB M R [])) ∧ w' = w := by
  have hl := hN.len
  rw [hn] at hl
  have HN := hid hN
  have HM := hid hn
  have HR := hid hR
  have HRn := hid hrn
  have HE0 : Hid (errB M R [] = if soundB M = false then 1 else if inN n R = false then 2 else 0) := by
    show _ = _
    rw [errB, hn]
    simp [inN]
  clear hN hn hR hrn
  by_cases hbig : 65536 < n
  · have HF : Hid (errB M R [] = 1) := by
      show _ = _
      rw [HE0.out]
      have : ¬ M.length ≤ 65536 := by rw [HM.out]; omega
      simp [soundB, this]
    go_enter Try.func30, Try.ntmps30
    go_wp2
    go_ret
    exact ⟨by rw [HF.out]; rfl, rfl⟩
  · have hbig2 : ¬ (65536 : Int) < n := by omega
    have HBad : Hid (∀ i, i < n → snd1 M (lsAt M i) = false → errB M R [] = 1) := fun i hi h => by
      rw [HE0.out, snd_false (M := M) (k := i) (by rw [HM.out]; exact hi) h]
      rfl
    go_enter Try.func30, Try.ntmps30
    go_upto_block 0 with fail
    go_cut [5] from 11 (fun _ wc => w = wc ∧ M.all (snd1 M) = true)
    case first =>
      go_wp2_with fail
      go_loopg [5] n (fun q u wr => w = wr ∧ ∃ i : Nat, i + q = n ∧ u = .int .i64 i ∧ (M.take i).all (snd1 M) = true)
      case atStart => exact ⟨rfl, 0, by omega, rfl, by simp⟩
      case round =>
        obtain ⟨rfl, i, hiq, rfl, hal⟩ := hrel
        have HAl := hid hal
        have HQ := hid hiq
        clear hal
        cases gk with
        | zero =>
          obtain rfl : i = n := by omega
          clear hiq
          go_wp2_with fail
          go_meet
          case rel =>
            refine ⟨by trivial, ?_⟩
            have := HAl.out
            rwa [← HM.out, List.take_length] at this
        | succ g =>
          have hin : i < n := by omega
          have hgm : g < g + 1 := by omega
          have HG1 : Hid (i + 1 + g = n) := by show _ = _; omega
          clear hiq
          obtain ⟨b, o, rfl, hcs⟩ := HN.out.addr (by rw [HM.out]; omega)
          obtain ⟨fa, fc, c0, hI, _, hfl⟩ := hcs i (by rw [HM.out]; exact hin)
          have HT := hid (snd_take (M := M) (k := i) (by rw [HM.out]; exact hin))
          have HB1 := hid (HBad.out i hin)
          have HD : Hid (snd1 M (lsAt M i) = (decide ((lsAt M i).length ≤ 8192) && inN n (lsAt M i))) := by show _ = _; rw [← HM.out]; rfl
          have HI := hid hI
          generalize lsAt M i = l at *
          generalize hm : l.length = m at *
          have HLm := hid hm
          clear hcs hI hm
          by_cases h1 : 8192 < m
          · have HF : Hid (errB M R [] = 1) := HB1.out (by rw [HD.out]; simp; omega)
            go_wp2_with fail
            go_ret
            exact ⟨by rw [HF.out]; rfl, rfl⟩
          · have h1' : ¬ (8192 : Int) < m := by omega
            go_wp2_with fail
            go_loopg [6] m (fun q u wr => w = wr ∧ ∃ k : Nat, k + q = m ∧ u = .int .i64 k ∧ inN n (l.take k) = true)
            case atStart => exact ⟨rfl, 0, by omega, rfl, by simp [inN]⟩
            case round =>
              obtain ⟨rfl, k, hkq, rfl, hin2⟩ := hrel
              have HK := hid hin2
              have HKQ := hid hkq
              clear hin2
              cases gk with
              | zero =>
                obtain rfl : k = m := by omega
                have HS : Hid (snd1 M l = true) := by
                  show _ = _
                  have := HK.out
                  rw [← HLm.out, List.take_length] at this
                  rw [HD.out, this]
                  simp
                  omega
                clear hkq
                go_wp2_with fail
                go_roundg g
                case measure => omega
                case rel => exact ⟨by trivial, i + 1, HG1.out, by go_num, by rw [HT.out, HAl.out, HS.out]; rfl⟩
              | succ g2 =>
                have hkm : k < m := by omega
                have HG2 : Hid (k + 1 + g2 = m) := by show _ = _; omega
                clear hkq
                obtain ⟨fb, fo, rfl, hc⟩ := HI.out.cell (j := k) (by rw [HLm.out]; exact hkm)
                have HTk := hid (inN_take (n := n) (l := l) (k := k) (by rw [HLm.out]; exact hkm))
                have HFk := hid (fun h => inN_false (n := n) (l := l) (k := k) (by rw [HLm.out]; exact hkm) h)
                generalize l.getD k 0 = x at *
                by_cases hx0 : x < 0
                · have HF : Hid (errB M R [] = 1) := HB1.out (by rw [HD.out, HFk.out (.inl hx0)]; simp)
                  go_wp2_with fail
                  go_ret
                  exact ⟨by rw [HF.out]; rfl, rfl⟩
                · by_cases hxn : (n : Int) ≤ x
                  · have HF : Hid (errB M R [] = 1) := HB1.out (by rw [HD.out, HFk.out (.inr hxn)]; simp)
                    go_wp2_with fail
                    go_ret
                    exact ⟨by rw [HF.out]; rfl, rfl⟩
                  · go_wp2_with fail
                    go_roundg g2
                    case measure => omega
                    case rel => exact ⟨by trivial, k + 1, HG2.out, by go_num, by rw [HTk.out, HK.out]; simp; omega⟩
    case rest =>
      obtain ⟨rfl, hall⟩ := hcut
      have HE1 : Hid (errB M R [] = if inN n R = false then 2 else 0) := by
        show _ = _
        have h2 : M.length ≤ 65536 := by rw [HM.out]; omega
        have h3 : soundB M = true := by
          simp only [soundB, h2]
          have h4 : (M.all fun l => decide (l.length ≤ 8192) && inN M.length l) = true := hall
          rw [h4]
          rfl
        rw [HE0.out, h3]
        rfl
      clear hall HBad HE0
      go_wp2_with fail
      go_loopg [7] rn (fun q u wr => w = wr ∧ ∃ i : Nat, i + q = rn ∧ u = .int .i64 i ∧ inN n (R.take i) = true)
      case atStart => exact ⟨rfl, 0, by omega, rfl, by simp [inN]⟩
      case round =>
        obtain ⟨rfl, i, hiq, rfl, hin⟩ := hrel
        have HIn := hid hin
        have HQ := hid hiq
        clear hin
        cases gk with
        | zero =>
          obtain rfl : i = rn := by omega
          have HF : Hid (errB M R [] = 0) := by
            show _ = _
            have := HIn.out
            rw [← HRn.out, List.take_length] at this
            rw [HE1.out, this]
            rfl
          clear hiq
          go_wp2_with fail
          go_ret
          exact ⟨by rw [HF.out]; rfl, rfl⟩
        | succ g =>
          have hir : i < rn := by omega
          have HG1 : Hid (i + 1 + g = rn) := by show _ = _; omega
          clear hiq
          obtain ⟨b, o, rfl, hc⟩ := HR.out.cell (j := i) (by rw [HRn.out]; exact hir)
          have HTk := hid (inN_take (n := n) (l := R) (k := i) (by rw [HRn.out]; exact hir))
          have HFk := hid (fun h => inN_false (n := n) (l := R) (k := i) (by rw [HRn.out]; exact hir) h)
          generalize R.getD i 0 = x at *
          by_cases hx0 : x < 0
          · have HF : Hid (errB M R [] = 2) := by show _ = _; rw [HE1.out, HFk.out (.inl hx0)]; rfl
            go_wp2_with fail
            go_ret
            exact ⟨by rw [HF.out]; rfl, rfl⟩
          · by_cases hxn : (n : Int) ≤ x
            · have HF : Hid (errB M R [] = 2) := by show _ = _; rw [HE1.out, HFk.out (.inr hxn)]; rfl
              go_wp2_with fail
              go_ret
              exact ⟨by rw [HF.out]; rfl, rfl⟩
            · go_wp2_with fail
              go_roundg g
              case measure => omega
              case rel => exact ⟨by trivial, i + 1, HG1.out, by go_num, by rw [HTk.out, HIn.out]; simp; omega⟩

end Go.Proofs.Ytfjabjnajcfamaa
