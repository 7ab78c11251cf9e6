/-
  The reference's Lost, and its comparisons where both are the same; no statement is proved here.
-/
import Derived.Test.YtfjabjnajcfamaaRfB
import Derived.Test.YtfjabjnajcfamaaOwn
namespace Go.Proofs.Ytfjabjnajcfamaa
open Go.RowKit

theorem sameInts_true (a b : Option Addr) (n c d : Nat) (xs : List Int) (w : World) (ha : Is w a xs) (hb : Is w b xs) (hn : xs.length = n) (hm : n ≤ 17592186044416) :
    Calls Try.prog 17 #[.slice a n c, .slice b n d] w (SayPost w (.bool true)) := by
  by_cases h0 : n = 0
  · subst h0
    go_enter Try.func17, Try.ntmps17
    go_wp2
    go_loop [5] (fun q => q = .int .i64 0) (fun _ => 0)
    case atStart => rfl
    case round =>
      subst hrel
      go_wp2
      go_ret
      exact ⟨rfl, Ext.refl _ _⟩
  · have hne : xs ≠ [] := by rintro rfl; simp at hn; omega
    obtain ⟨b1, o1, rfl, hc1⟩ := ha.at_ hne
    obtain ⟨b2, o2, rfl, hc2⟩ := hb.at_ hne
    rw [hn] at hc1 hc2
    have H1 := hid hc1
    have H2 := hid hc2
    clear hc1 hc2 ha hb hn hne
    go_enter Try.func17, Try.ntmps17
    go_wp2
    go_loopw [5] (fun q wr => ∃ k m : Nat, q = .int .i64 k ∧ k ≤ n ∧ wr = w.drewN m) (fun q _ => (n - (intOf q)).toNat)
    case atStart => exact ⟨0, 0, rfl, Nat.zero_le _, rfl⟩
    case round =>
      obtain ⟨k, m, rfl, hk, rfl⟩ := hrel
      by_cases hkn : k < n
      · have hx := H1.out k hkn
        have hy := H2.out k hkn
        generalize xs.getD k 0 = x at *
        go_wp2
        go_quiet (fail)
        go_wp2
        go_roundw
        case rel => exact ⟨k + 1, _, by go_num, by omega, rfl⟩
        case measure => simp [intOf]; omega
      · go_wp2
        go_ret
        exact ⟨rfl, Ext.drewN _ _ _⟩

theorem sameBools_true (a b : Option Addr) (n c d : Nat) (xs : List Bool) (w : World) (ha : Os w a xs) (hb : Os w b xs) (hn : xs.length = n) (hm : n ≤ 17592186044416) :
    Calls Try.prog 16 #[.slice a n c, .slice b n d] w (SayPost w (.bool true)) := by
  by_cases h0 : n = 0
  · subst h0
    go_enter Try.func16, Try.ntmps16
    go_wp2
    go_loop [5] (fun q => q = .int .i64 0) (fun _ => 0)
    case atStart => rfl
    case round =>
      subst hrel
      go_wp2
      go_ret
      exact ⟨rfl, Ext.refl _ _⟩
  · have hne : xs ≠ [] := by rintro rfl; simp at hn; omega
    obtain ⟨b1, o1, rfl, hc1⟩ := ha.at_ hne
    obtain ⟨b2, o2, rfl, hc2⟩ := hb.at_ hne
    rw [hn] at hc1 hc2
    have H1 := hid hc1
    have H2 := hid hc2
    clear hc1 hc2 ha hb hn hne
    go_enter Try.func16, Try.ntmps16
    go_wp2
    go_loopw [5] (fun q wr => ∃ k m : Nat, q = .int .i64 k ∧ k ≤ n ∧ wr = w.drewN m) (fun q _ => (n - (intOf q)).toNat)
    case atStart => exact ⟨0, 0, rfl, Nat.zero_le _, rfl⟩
    case round =>
      obtain ⟨k, m, rfl, hk, rfl⟩ := hrel
      by_cases hkn : k < n
      · have hx := H1.out k hkn
        have hy := H2.out k hkn
        generalize xs.getD k false = x at *
        cases x <;>
        · go_wp2
          go_quiet (fail)
          go_wp2
          go_roundw
          case rel => exact ⟨k + 1, _, by go_num, by omega, rfl⟩
          case measure => simp [intOf]; omega
      · go_wp2
        go_ret
        exact ⟨rfl, Ext.drewN _ _ _⟩

/-- 'append(append([]int{}, roots...), x)'. -/
theorem roots_to (ra : Option Addr) (rn rc : Nat) (R : List Int) (x : Int) (w : World) (hR : Is w ra R) (hrn : R.length = rn) (hrb : rn ≤ 1048576) :
    ∃ a1 c1 w1 a2 c2 w2, (Builtin.append_ #[23, 23] 23 #[.slice (some ⟨w.heap.size, 0, none⟩) 0 0, .slice ra rn rc]).run Try.prog (w.alloc (.cells #[] 3)) = .ok (.slice a1 rn c1) w1 ∧
      (Builtin.append_ #[23, 23] 23 #[.slice a1 rn c1, .slice (some ⟨w1.heap.size, 0, none⟩) 1 1]).run Try.prog (w1.alloc (.cells #[.int .i64 x] 3)) = .ok (.slice a2 (rn + 1) c2) w2 ∧ Is w2 a2 (R ++ [x]) ∧ Ext [] w w2 := by
  have hE0 := Ext.alloc [] w (.cells #[] 3)
  have hown : (w.alloc (.cells #[] 3)).ownsRow w.heap.size 3 1 (.slice (some ⟨w.heap.size, 0, none⟩) 0 0) 0 [] := World.ownsRow_made w #[] 0 (Nat.le_refl _) (Nat.zero_le _) rfl
  obtain ⟨v, w1, hr, ho, hE, _⟩ := app_own w _ hE0 23 23 3 _ 8 Try.underlying23 info3 rfl (by omega) _ 0 [] hown ra rn rc (R.map (Value.int .i64)) (by simpa using hrn) (Vs.keep0 hR hE0) (ints_one R) (by omega)
  rw [Nat.zero_add, List.nil_append] at ho
  obtain ⟨a1, c1, rfl, _⟩ := own_slice ho
  obtain ⟨v', w2, hr2, ho2, hE2, _⟩ := put_big ho hE.size hE (Nat.le_refl _) x (by omega)
  obtain ⟨a2, c2, rfl, _⟩ := own_slice ho2
  refine ⟨a1, c1, w1, a2, c2, w2, hr, hr2, ?_, hE2⟩
  have := own_vs ho2
  rw [Is, List.map_append]
  exact this

set_option maxRecDepth 100000 in
theorem rlost_bad (a : Option Addr) (n c : Nat) (ra : Option Addr) (rn rc : Nat) (x : Int) (M : List (List Int)) (R : List Int) (w : World) (hN : Nt w a M) (hn : M.length = n) (hR : Is w ra R) (hrn : R.length = rn) (hrb : rn ≤ 1048576) (h : errB M R [x] ≠ 0) :
    Calls Try.prog 19 #[.slice a n c, .slice ra rn rc, .int .i64 x] w (BadPost w (errB M R [x])) := by
  obtain ⟨a1, c1, w1, a2, c2, w2, hr1, hr2, hI, hE⟩ := roots_to ra rn rc R x w hR hrn hrb
  have K := rbad_any a n c a2 (rn + 1) c2 M (R ++ [x]) w2 (hN.keep0 hE) hn hI (by simp [hrn]) (by omega)
  rw [errB_app] at K
  have hne : (errB M R [x] != 0) = true := by simpa using h
  have HE := hid hE
  generalize errB M R [x] = er at *
  clear hN hn hR hrn h hE hI
  go_enter Try.func19, Try.ntmps19
  go_wp2_with (first | (at_builtin; refine wpList_append_run rfl _ _ 23 rfl (.slice (some ⟨w.heap.size, 0, none⟩) 0 0) (.slice ra rn rc) _ rfl rfl hr1 ?_) | (at_builtin; refine wpList_append_run rfl _ _ 23 rfl (.slice a1 rn c1) (.slice (some ⟨w1.heap.size, 0, none⟩) 1 1) _ rfl rfl hr2 ?_) | (go_at_call 30; refine met K ?_))
  go_ret2
  exact ⟨rfl, HE.out⟩

set_option maxRecDepth 100000 in
set_option maxHeartbeats 2000000 in
theorem rlost_any (N : List (List Nat)) (R : List Nat) (tg : Nat) (a : Option Addr) (n c : Nat) (ra : Option Addr) (rn rc : Nat) (w : World) (hN : Nt w a (cn N)) (hn : N.length = n) (hG : Good N R) (hR : Is w ra (ci R)) (hrn : R.length = rn) (hrb : rn ≤ 1048576) (hto : tg < n) :
    Calls Try.prog 19 #[.slice a n c, .slice ra rn rc, .int .i64 tg] w (LoPost w N R tg) := by
  obtain ⟨a1, c1, w1, a2, c2, w2, hr1, hr2, hI, hE⟩ := roots_to ra rn rc (ci R) (tg : Int) w hR (by rw [ci_len]; exact hrn) hrb
  have K := rbad_any a n c a2 (rn + 1) c2 (cn N) (ci R ++ [(tg : Int)]) w2 (hN.keep0 hE) (by rw [cn_len]; exact hn) hI (by simp [ci_len, hrn]) (by omega)
  have h0 := good_err hG (T := [tg]) (by intro x hx; simp at hx; subst hx; omega)
  rw [show ci [tg] = [(tg : Int)] from rfl] at h0
  rw [errB_app, h0] at K
  have K2 := rreached_any N R (-1) a n c ra rn rc w2 (hN.keep0 hE) hn hG (hR.keep0 hE) hrn hrb
  have HK3 : Hid (∀ W, Ext [] w W → Calls Try.prog 31 #[.slice a n c, .slice ra rn rc, .int .i64 tg] W (RePost W N R tg)) := fun W h => rreached_any N R tg a n c ra rn rc W (hN.keep0 h) hn hG (hR.keep0 h) hrn hrb
  have HE := hid hE
  have HNn := hid hn
  have hnb : n ≤ 65536 := by have := hG.len; omega
  clear hN hn hR hrn hG h0 hE hI
  go_enter Try.func19, Try.ntmps19
  go_wp2_with (first | (at_builtin; refine wpList_append_run rfl _ _ 23 rfl (.slice (some ⟨w.heap.size, 0, none⟩) 0 0) (.slice ra rn rc) _ rfl rfl hr1 ?_) | (at_builtin; refine wpList_append_run rfl _ _ 23 rfl (.slice a1 rn c1) (.slice (some ⟨w1.heap.size, 0, none⟩) 1 1) _ rfl rfl hr2 ?_) | (go_at_call 30; refine met K ?_))
  refine K2.mono ?_
  clear K K2 hr1 hr2
  rintro e w3 ⟨v1, L1, rfl, hB1, ho1, hE1⟩
  have HB1 := hid hB1
  obtain ⟨a3, c3, rfl, _⟩ := own_slice ho1
  have HL1 := hid (show Os w3 a3 L1 from own_vs ho1)
  have HE1 := hid (HE.out.trans hE1)
  have K3 := HK3.out w3 HE1.out
  clear hB1 ho1 hE1 HK3 HE
  rw [HNn.out]
  go_wp2_with fail
  refine K3.mono ?_
  clear K3
  rintro e w4 ⟨v2, L2, rfl, hB2, ho2, hE2⟩
  have HB2 := hid hB2
  obtain ⟨a4, c4, rfl, _⟩ := own_slice ho2
  have HL2 := hid (show Os w4 a4 L2 from own_vs ho2)
  have HL12 := hid (HL1.out.keep0 hE2)
  have HE2 := hid (HE1.out.trans hE2)
  have HN1 : Hid (L1.length = n) := by show _ = _; rw [HB1.out.len, HNn.out]
  have HN2 : Hid (L2.length = n) := by show _ = _; rw [HB2.out.len, HNn.out]
  clear hB2 ho2 hE2 HL1 HE1
  rw [HNn.out]
  go_wp2_with fail
  go_loopg [11, 12] n (fun q lv u wr => ∃ k : Nat, k + q = n ∧ u = .int .i64 k ∧ Ext [] w4 wr ∧ wr.ownsRow w4.heap.size 3 1 lv (lostOf L1 L2 k).length ((ci (lostOf L1 L2 k)).map (Value.int .i64)))
  case atStart => exact ⟨0, by omega, rfl, Ext.refl _ _, own_nil _ _ _ _⟩
  case round =>
    obtain ⟨k, hkq, rfl, hE, ho⟩ := hrel
    have HE := hid hE
    have HO := hid ho
    obtain ⟨la, lc, hlv, _⟩ := own_slice ho
    subst hlv
    have hll := lostOf_len L1 L2 k
    clear hE ho
    cases gk with
    | zero =>
      obtain rfl : k = n := by omega
      go_wp2_with fail
      go_ret2
      refine ⟨L1, L2, la, lc, HB1.out, HB2.out, ?_, ?_, HE2.out.trans HE.out⟩
      · rw [HNn.out]; rfl
      · rw [HNn.out]
        exact own_base HO.out HE2.out.size
    | succ q =>
      have hkn : k < n := by omega
      obtain ⟨b1, o1, rfl, k1⟩ := (HL12.out.keep0 HE.out).cell (j := k) (by rw [HN1.out]; exact hkn)
      have HS := hid (lostOf_succ L1 L2 k)
      cases hv1 : L1.getD k false
      · rw [hv1] at k1 HS
        have HS2 : Hid (lostOf L1 L2 (k + 1) = lostOf L1 L2 k) := by show _ = _; rw [HS.out]; simp
        clear HS hv1
        go_wp2_with fail
        go_roundg q
        case measure => omega
        case rel => exact ⟨k + 1, by omega, by go_num, HE.out, by rw [HS2.out]; exact HO.out⟩
      · obtain ⟨b2, o2, rfl, k2⟩ := (HL2.out.keep0 HE.out).cell (j := k) (by rw [HN2.out]; exact hkn)
        rw [hv1] at k1 HS
        cases hv2 : L2.getD k false
        · rw [hv2] at k2 HS
          have HS2 : Hid (lostOf L1 L2 (k + 1) = lostOf L1 L2 k ++ [k]) := by show _ = _; rw [HS.out]; simp
          obtain ⟨v', W2, hr, hoo, hEE⟩ := put_one HE.out HO.out (k : Int) (by omega)
          obtain ⟨gl2, lc2, hv', _⟩ := hoo.form (by omega)
          subst hv'
          have HO2 : Hid (W2.ownsRow w4.heap.size 3 1 (.slice (some ⟨gl2, 0, none⟩) ((lostOf L1 L2 k).length + 1) lc2) (lostOf L1 L2 (k + 1)).length ((ci (lostOf L1 L2 (k + 1))).map (Value.int .i64))) := by
            show World.ownsRow _ _ _ _ _ _ _
            rw [HS2.out]
            simpa [ci] using hoo
          have HE3 := hid hEE
          clear HS hv1 hv2 hoo hEE
          go_wp2_with (at_builtin; refine wpList_append_run rfl _ _ 23 rfl _ _ _ rfl rfl hr ?_)
          go_roundg q
          case measure => omega
          case rel => exact ⟨k + 1, by omega, by go_num, HE3.out, HO2.out⟩
        · rw [hv2] at k2 HS
          have HS2 : Hid (lostOf L1 L2 (k + 1) = lostOf L1 L2 k) := by show _ = _; rw [HS.out]; simp
          clear HS hv1 hv2
          go_wp2_with fail
          go_roundg q
          case measure => omega
          case rel => exact ⟨k + 1, by omega, by go_num, HE.out, by rw [HS2.out]; exact HO.out⟩

end Go.Proofs.Ytfjabjnajcfamaa
