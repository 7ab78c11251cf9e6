/-
  The reference's Order; no statement is proved here.
-/
import Derived.Test.YtfjabjnajcfamaaRfE
namespace Go.Proofs.Ytfjabjnajcfamaa
open Go.RowKit

theorem rorder_bad (a : Option Addr) (n c : Nat) (ra : Option Addr) (rn rc : Nat) (M : List (List Int)) (R : List Int) (w : World) (hN : Nt w a M) (hn : M.length = n) (hR : Is w ra R) (hrn : R.length = rn) (hrb : rn ≤ 17592186044416) (h : errB M R [] ≠ 0) :
    Calls Try.prog 22 #[.slice a n c, .slice ra rn rc] w fun e w' => e = .returned (.tuple #[.slice none 0 0, .int .i64 (errB M R [])]) ∧ w' = w := by
  have K := rbad_any a n c ra rn rc M R w hN hn hR hrn hrb
  have hne : (errB M R [] != 0) = true := by simpa using h
  generalize errB M R [] = er at *
  clear hN hn hR hrn h
  go_enter Try.func22, Try.ntmps22
  go_wp2_with (go_at_call 30; refine met K ?_)
  go_ret2
  exact ⟨rfl, rfl⟩

def RoPost (w : World) (N : List (List Nat)) (R : List Nat) (e : Ending) (w' : World) : Prop :=
  ∃ O a c, Ord N R (-1) O ∧ e = .returned (.tuple #[.slice a O.length c, .int .i64 0]) ∧ Is w' a (ci O) ∧ Ext [] w w'

set_option maxRecDepth 100000 in
set_option maxHeartbeats 4000000 in
theorem rorder_ok (N : List (List Nat)) (R : List Nat) (a : Option Addr) (n c : Nat) (ra : Option Addr) (rn rc : Nat) (w : World) (hN : Nt w a (cn N)) (hn : N.length = n) (hG : Good N R) (hR : Is w ra (ci R)) (hrn : R.length = rn) (hrb : rn ≤ 1048576) :
    Calls Try.prog 22 #[.slice a n c, .slice ra rn rc] w (RoPost w N R) := by
  have K := rbad_any a n c ra rn rc (cn N) (ci R) w hN (by rw [cn_len]; exact hn) hR (by rw [ci_len]; exact hrn) (by omega)
  have h0 := good_err hG (T := []) (by intro x hx; cases hx)
  rw [show ci [] = [] from rfl] at h0
  rw [h0] at K
  obtain ⟨i4, hi4, hz4, hs4, hy4⟩ := info_parts info4
  have hnb : n ≤ 65536 := by have := hG.len; omega
  have hr := run_make (P := Try.prog) w 25 4 i4 _ Try.underlying25 hi4 hz4 .i64 .i64 n n (by omega) (Int.le_refl _) (by rw [hy4]; omega) (by omega)
  rw [hs4] at hr
  simp only [Int.toNat_natCast] at hr
  have hm : madeCells (Value.bool false).cells (n * 1) = ((mark n []).map Value.bool).toArray := by
    apply Array.toList_inj.1
    rw [show (Value.bool false).cells = #[.bool false] from rfl, toList_madeCells_one, mark_nil]
    simp
  rw [hm] at hr
  have HW0 : Hid (Wk w a n c ((w.alloc (.cells ((mark n []).map Value.bool).toArray 4)).alloc (.cells #[.slice a n c, .slice (some ⟨w.heap.size, 0, none⟩) n n, .slice none 0 0] 61)) (mark n []) []) := by
    refine ⟨.slice none 0 0, (Ext.alloc [] _ _).trans (Ext.alloc [] _ _), by simp, mark_len _ _, (Ext.alloc [] _ _).keep (heap_alloc_new w _) (by simp), ?_, own_nil _ _ _ _, own_nil _ _ _ _, own_nil _ _ _ _, ap_nil _, ap_nil _, ap_nil _⟩
    have := heap_alloc_new (w.alloc (.cells ((mark n []).map Value.bool).toArray 4)) (.cells #[.slice a n c, .slice (some ⟨w.heap.size, 0, none⟩) n n, .slice none 0 0] 61)
    simpa using this
  have HPu : Hid (Pu N R (-1) R (mark n []) [] []) := by
    refine ⟨?_, by simp, by simp, by simp, fun C' O' k => ?_⟩
    · have := List.count_le_length (l := mark n []) (a := false)
      rw [mark_len] at this
      simp
      omega
    · rw [hn, came_none, ← mark_nil]
      simpa using k
  have HN := hid hN
  have HR := hid hR
  have HNn := hid hn
  have HRn := hid hrn
  have HG := hid hG
  clear hm hi4 hz4 hs4 hy4 hN hR hn hrn hG h0
  go_enter Try.func22, Try.ntmps22
  go_upto_region 6 with (go_at_call 30; refine met K ?_)
  generalize (w.alloc (.cells ((mark n []).map Value.bool).toArray 4)).alloc (.cells #[.slice a n c, .slice (some ⟨w.heap.size, 0, none⟩) n n, .slice none 0 0] 61) = w1 at *
  clear hr K
  go_loopg [8] rn (fun q u wr => ∃ k C O, k + q = rn ∧ u = .int .i64 (k : Nat) ∧ Wk w a n c wr C O ∧ Pu N R (-1) (R.drop k) C O [])
  case atStart => exact ⟨0, _, [], by omega, rfl, HW0.out, HPu.out⟩
  case round =>
    clear HW0 HPu
    obtain ⟨k, C, O, hkq, rfl, hW, hP⟩ := hrel
    have HW := hid hW
    have HP := hid hP
    clear hP
    cases gk with
    | zero =>
      obtain rfl : k = rn := by omega
      obtain ⟨vO, hF⟩ := hW
      obtain ⟨c0, c1, c2, cf⟩ := hF.b0
      obtain ⟨la, lc, hlv, _⟩ := own_slice hF.lo
      subst hlv
      have HF : Hid (RoPost w N R (.returned (.tuple #[.slice la O.length lc, .int .i64 0])) wr) := by
        have h1 := HP.out.run C O
        rw [List.drop_eq_nil_of_le (by rw [HRn.out]; exact Nat.le_refl _)] at h1
        exact ⟨O, la, lc, ord_of HG.out.net HG.out.roots (h1 (.pop (.done _ _))), rfl, own_vs hF.lo, hF.ext⟩
      clear hF hkq
      go_wp2_with fail
      go_ret2
      exact HF.out
    | succ q =>
      have hkr : k < rn := by omega
      have hkR : k < R.length := by rw [HRn.out]; exact hkr
      have hext : Ext [] w wr := by obtain ⟨_, h⟩ := hW; exact h.ext
      obtain ⟨rb, ro, rfl, hc⟩ := HR.out.cell (j := k) (by rw [ci_len]; exact hkR)
      rw [ci_get _ _ hkR] at hc
      have hx := HG.out.roots (R.getD k 0) (by simp [hkR])
      rw [HNn.out] at hx
      have hd : R.drop k = R.getD k 0 :: R.drop (k + 1) := by
        rw [List.drop_eq_getElem_cons hkR]
        simp [hkR]
      have HPd : Hid (Pu N R (-1) (R.getD k 0 :: R.drop (k + 1)) C O []) := by rw [← hd]; exact HP.out
      generalize R.getD k 0 = x at *
      have k1 := hext.cell hc (by simp)
      have KF := from_any N R (R.drop (k + 1)) x w a n c wr C O HN.out HNn.out HG.out hx HW.out HPd.out
      have HG1 : Hid (k + 1 + q = rn) := by show _ = _; omega
      clear hW hext hc hd hkR hkq HP HPd
      go_wp2_with fail
      refine KF.mono ?_
      clear KF
      rintro e w3 ⟨⟨v3, rfl⟩, C3, O3, hW3, hP3⟩
      have HW3 := hid hW3
      have HP3 := hid hP3
      clear hW3 hP3 k1
      go_wp2_with fail
      go_roundg q
      case measure => omega
      case rel => exact ⟨k + 1, C3, O3, HG1.out, by go_num, HW3.out, HP3.out⟩

end Go.Proofs.Ytfjabjnajcfamaa
