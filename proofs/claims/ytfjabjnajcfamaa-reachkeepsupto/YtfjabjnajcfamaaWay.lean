/-
  The program's Way and Lost; no statement is proved here.
-/
import Derived.Test.YtfjabjnajcfamaaBrB
namespace Go.Proofs.Ytfjabjnajcfamaa
open Go.RowKit

/-! ### Way -/

theorem one_is (w : World) (x : Int) : Is (w.alloc (.cells #[.int .i64 x] 3)) (some ⟨w.heap.size, 0, none⟩) [x] := vs_new w 3 [.int .i64 x]

def BadPost (w : World) (er : Int) (e : Ending) (w' : World) : Prop := e = .returned (.tuple #[.slice none 0 0, .int .i64 er]) ∧ Ext [] w w'

theorem way_bad (a : Option Addr) (n c : Nat) (ra : Option Addr) (rn rc : Nat) (x : Int) (M : List (List Int)) (R : List Int) (w : World) (hN : Nt w a M) (hn : M.length = n) (hR : Is w ra R) (hrn : R.length = rn) (hrb : rn ≤ 17592186044416) (h : errB M R [x] ≠ 0) :
    Calls Try.prog 14 #[.slice a n c, .slice ra rn rc, .int .i64 x] w (BadPost w (errB M R [x])) := by
  have hE := Ext.alloc [] w (.cells #[.int .i64 x] 3)
  have K := fault_any a n c ra rn rc (some ⟨w.heap.size, 0, none⟩) 1 1 M R [x] _ (hN.keep0 hE) hn (hR.keep0 hE) hrn hrb (one_is w x) rfl (by omega)
  have hne : (errB M R [x] != 0) = true := by simpa using h
  have HE := hid hE
  generalize errB M R [x] = er at *
  clear hN hn hR hrn h hE
  go_enter Try.func14, Try.ntmps14
  go_wp2_with (go_at_call 28; refine met K ?_)
  go_ret2
  exact ⟨rfl, HE.out⟩

def WayPost (w : World) (N : List (List Nat)) (R : List Nat) (tg : Nat) (e : Ending) (w' : World) : Prop :=
  (∃ u a c, Best N R tg u ∧ u.length ≤ N.length + 1 ∧ e = .returned (.tuple #[.slice a u.length c, .int .i64 0]) ∧ w'.ownsRow w.heap.size 3 1 (.slice a u.length c) u.length ((ci u).map (Value.int .i64)) ∧ Ext [] w w') ∨ (¬ Rch N R (-1) tg ∧ e = .returned (.tuple #[.slice none 0 0, .int .i64 4]) ∧ Ext [] w w')

theorem Ch.last {A : List Int} {u : List Nat} {x : Nat} (h : Ch A u x) : (A[x]? = some (x : Int) ∧ u = [x]) ∨ ∃ p y, u = p ++ [x] ∧ Ch A p y ∧ A[x]? = some (y : Int) ∧ y ≠ x := by
  cases h with
  | root h => exact .inl ⟨h, rfl⟩
  | step h1 h2 h3 => exact .inr ⟨_, _, rfl, h1, h2, h3⟩

/-- A number put behind a list of one's own. -/
theorem put_one {w0 W : World} {v : Value} {n : Nat} {xs : List Value} (hE : Ext [] w0 W) (ho : W.ownsRow w0.heap.size 3 1 v n xs) (x : Int) (hl : n ≤ 100000) :
    ∃ v' W2, (Builtin.append_ #[23, 23] 23 #[v, .slice (some ⟨W.heap.size, 0, none⟩) 1 1]).run Try.prog (W.alloc (.cells #[.int .i64 x] 3)) = .ok v' W2 ∧ W2.ownsRow w0.heap.size 3 1 v' (n + 1) (xs ++ [.int .i64 x]) ∧ Ext [] w0 W2 := by
  obtain ⟨v', W2, hr, h1, h2, _⟩ := app_own w0 (W.alloc (.cells #[.int .i64 x] 3)) (hE.trans (Ext.alloc [] _ _)) 23 23 3 _ 8 Try.underlying23 info3 rfl (by omega) v n xs (own_keep0 ho (Ext.alloc [] _ _)) (some ⟨W.heap.size, 0, none⟩) 1 1 [.int .i64 x] rfl (vs_new W 3 [.int .i64 x]) (by simp [Value.oneCell']) (by omega)
  exact ⟨v', W2, hr, h1, h2⟩

set_option maxRecDepth 100000 in
set_option maxHeartbeats 2000000 in
theorem way_any (N : List (List Nat)) (R : List Nat) (tg : Nat) (a : Option Addr) (n c : Nat) (ra : Option Addr) (rn rc : Nat) (w : World) (hN : Nt w a (cn N)) (hn : N.length = n) (hG : Good N R) (hR : Is w ra (ci R)) (hrn : R.length = rn) (hrb : rn ≤ 17592186044416) (hto : tg < n) :
    Calls Try.prog 14 #[.slice a n c, .slice ra rn rc, .int .i64 tg] w (WayPost w N R tg) := by
  have hE := Ext.alloc [] w (.cells #[.int .i64 tg] 3)
  have K := fault_any a n c ra rn rc (some ⟨w.heap.size, 0, none⟩) 1 1 (cn N) (ci R) [(tg : Int)] _ (hN.keep0 hE) (by rw [cn_len]; exact hn) (hR.keep0 hE) (by rw [ci_len]; exact hrn) hrb (one_is w tg) rfl (by omega)
  have h0 := good_err hG (T := [tg]) (by intro x hx; simp at hx; subst hx; omega)
  rw [show ci [tg] = [(tg : Int)] from rfl] at h0
  rw [h0] at K
  have K2 := breadth_any N R tg a n c ra rn rc _ (hN.keep0 hE) hn hG (hR.keep0 hE) hrn hrb hto
  have HE := hid hE
  have HNn := hid hn
  have hnb : n ≤ 65536 := by have := hG.len; omega
  clear hN hn hR hrn hG h0 hE
  go_enter Try.func14, Try.ntmps14
  go_wp2_with (go_at_call 28; refine met K ?_)
  refine K2.mono ?_
  clear K K2
  rintro e w1 ⟨g, A, rfl, ⟨hAl, hF⟩, hg, har, hE1⟩
  rw [HNn.out]
  have HE1 := hid (HE.out.trans hE1)
  have hgl := lt_of_heap har
  have HAr := hid har
  have HAc : Hid (∀ x, x < n → ∀ y, A[x]? = some y → w1.cell? ⟨g, x, none⟩ = some (.int .i64 y)) := fun x hx y hy => by
    rw [cell_of_row _ _ _ _ _ _ HAr.out]
    simp [hy]
  have HAl : Hid (A.length = n) := by show _ = _; rw [hAl, HNn.out]
  have hgw : w.heap.size ≤ g := by simp at hg; omega
  clear har hE1 HE hAl hg
  rcases hF with ⟨u, hBest, hCh, hul⟩ | ⟨hA, hno⟩
  · have HBest := hid hBest
    have HUl := hid hul
    have hul2 : u.length ≤ n + 1 := by have := HNn.out; omega
    have HC0 := hid hCh
    have hne1 : ∃ y : Nat, A[tg]? = some (y : Int) := by
      rcases hCh.last with ⟨h, _⟩ | ⟨_, y, _, _, h, _⟩
      · exact ⟨_, h⟩
      · exact ⟨_, h⟩
    obtain ⟨y0, hy0⟩ := hne1
    have k0 := HAc.out tg hto _ hy0
    have hyb : ((y0 : Int) == -1) = false := by simp
    have hOw : (w1.alloc (.cells #[.int .i64 tg] 3)).ownsRow w1.heap.size 3 1 (.slice (some ⟨w1.heap.size, 0, none⟩) 1 1) 1 [.int .i64 tg] := by
      have := World.ownsRow_lit (base := w1.heap.size) (e := 3) (size := 1) w1 #[.int .i64 tg] 1 (Nat.le_refl _) (by decide) rfl
      exact this
    have HOw := hid hOw
    have HEa := hid (Ext.alloc [] w1 (.cells #[.int .i64 (tg : Int)] 3))
    clear hBest hul hCh hy0 hOw
    go_upto_region 9 with fail
    generalize w1.alloc (.cells #[.int .i64 (tg : Int)] 3) = w2 at *
    clear k0 hyb
    go_loopg [10, 11] u.length (fun q lv nv wr => ∃ p nd s, p.length ≤ q ∧ nv = .int .i64 (nd : Nat) ∧ nd < n ∧ u = p ++ s ∧ Ch A p nd ∧ Ext [] w1 wr ∧ wr.ownsRow w1.heap.size 3 1 lv (s.length + 1) ((ci (s.reverse ++ [nd])).map (Value.int .i64)))
    case atStart => exact ⟨u, tg, [], Nat.le_refl _, rfl, hto, by simp, HC0.out, HEa.out, HOw.out⟩
    case round =>
      clear HOw HEa HC0
      obtain ⟨p, nd, s, hpq, rfl, hnd, hps, hCh, hE, ho⟩ := hrel
      have HPs := hid hps
      have HE := hid hE
      have HO := hid ho
      obtain ⟨gl, lc, hlv, _⟩ := ho.form (by omega)
      subst hlv
      have hsl : s.length ≤ n + 1 := by rw [hps, List.length_append] at hul2; omega
      clear hps hE ho
      rcases hCh.last with ⟨hA, hp⟩ | ⟨p1, y, hp, hCh1, hA, hyn⟩
      · have k1 := HE.out.cell (HAc.out nd hnd _ hA) (by simp)
        have KR := reverse_any w1.heap.size gl lc (ci (s.reverse ++ [nd])) wr (by rw [ci_len]; simpa using HO.out) (by rw [ci_len]; simp; omega)
        have HL : Hid ((ci (s.reverse ++ [nd])).length = s.length + 1) := by show _ = _; rw [ci_len]; simp
        have HU : Hid ((ci (s.reverse ++ [nd])).reverse = ci u) := by
          show _ = _
          rw [HPs.out, hp]
          simp [ci]
        have HUL : Hid (u.length = s.length + 1) := by show _ = _; rw [HPs.out, hp]; simp
        rw [HL.out, HU.out] at KR
        clear hA hCh hp
        go_wp2_with fail
        refine KR.mono ?_
        clear KR
        rintro e w4 ⟨rfl, ho4, hE4⟩
        have HO4 := hid ho4
        have HE4 := hid hE4
        clear ho4 hE4
        go_wp2_with fail
        go_ret2
        refine .inl ⟨u, some ⟨gl, 0, none⟩, lc, HBest.out, HUl.out, by rw [HUL.out]; rfl, ?_, ?_⟩
        · rw [HUL.out]
          exact own_base HO4.out HE1.out.size
        · have hgl2 := own_lt HO.out gl rfl
          have := HE1.out.size
          exact (HE1.out.trans HE.out).on HE4.out (by simp; omega)
      · have k1 := HE.out.cell (HAc.out nd hnd _ hA) (by simp)
        have hyb : ((y : Int) != (nd : Int)) = true := by simp; omega
        have hyb2 : ((y : Int) == (nd : Int)) = false := by simp; omega
        have hynl : y < n := by
          have h2 : A[y]? ≠ none := by
            rcases hCh1.last with ⟨h, _⟩ | ⟨_, z, _, _, h, _⟩ <;> rw [h] <;> simp
          rw [ne_eq, List.getElem?_eq_none_iff, HAl.out] at h2
          omega
        obtain ⟨v', W2, hr, ho2, hE2⟩ := put_one HE.out HO.out (y : Int) (by omega)
        obtain ⟨gl2, lc2, hv', _⟩ := ho2.form (by omega)
        subst hv'
        have HO2 : Hid (W2.ownsRow w1.heap.size 3 1 (.slice (some ⟨gl2, 0, none⟩) (s.length + 1 + 1) lc2) ((nd :: s).length + 1) ((ci ((nd :: s).reverse ++ [y])).map (Value.int .i64))) := by
          show World.ownsRow _ _ _ _ _ _ _
          simpa [ci] using ho2
        have HE2 := hid hE2
        have HU : Hid (u = p1 ++ (nd :: s)) := by show _ = _; rw [HPs.out, hp]; simp
        have HC1 := hid hCh1
        have hpl : p1.length + 1 ≤ gk := by rw [hp, List.length_append] at hpq; exact hpq
        clear ho2 hE2 hA hCh hCh1 hp hpq
        go_wp2_with (at_builtin; refine wpList_append_run rfl _ _ 23 rfl _ _ _ rfl rfl hr ?_)
        go_roundg p1.length
        case measure => omega
        case rel => exact ⟨p1, y, nd :: s, Nat.le_refl _, rfl, hynl, HU.out, HC1.out, HE2.out, HO2.out⟩
  · have k0 := HAc.out tg hto _ hA
    have HNo := hid hno
    clear hA hno
    go_wp2_with fail
    go_ret2
    exact .inr ⟨HNo.out, rfl, HE1.out⟩

/-! ### Lost -/

theorem lost_bad (a : Option Addr) (n c : Nat) (ra : Option Addr) (rn rc : Nat) (x : Int) (M : List (List Int)) (R : List Int) (w : World) (hN : Nt w a M) (hn : M.length = n) (hR : Is w ra R) (hrn : R.length = rn) (hrb : rn ≤ 17592186044416) (h : errB M R [x] ≠ 0) :
    Calls Try.prog 18 #[.slice a n c, .slice ra rn rc, .int .i64 x] w (BadPost w (errB M R [x])) := by
  have hE := Ext.alloc [] w (.cells #[.int .i64 x] 3)
  have K := fault_any a n c ra rn rc (some ⟨w.heap.size, 0, none⟩) 1 1 M R [x] _ (hN.keep0 hE) hn (hR.keep0 hE) hrn hrb (one_is w x) rfl (by omega)
  have hne : (errB M R [x] != 0) = true := by simpa using h
  have HE := hid hE
  generalize errB M R [x] = er at *
  clear hN hn hR hrn h hE
  go_enter Try.func18, Try.ntmps18
  go_wp2_with (go_at_call 28; refine met K ?_)
  go_ret2
  exact ⟨rfl, HE.out⟩

/-- What is lost: of the numbers below k those that are of one list and not of the other. -/
def lostOf (L1 L2 : List Bool) (k : Nat) : List Nat := (List.range k).filter fun i => L1.getD i false && !L2.getD i false

theorem lostOf_succ (L1 L2 : List Bool) (k : Nat) : lostOf L1 L2 (k + 1) = lostOf L1 L2 k ++ if (L1.getD k false && !L2.getD k false) = true then [k] else [] := by
  unfold lostOf
  rw [List.range_succ, List.filter_append]
  congr 1
  by_cases h : (L1.getD k false && !L2.getD k false) = true
  · rw [if_pos h, List.filter_cons, if_pos h]; rfl
  · rw [if_neg h, List.filter_cons, if_neg h]; rfl
theorem lostOf_len (L1 L2 : List Bool) (k : Nat) : (lostOf L1 L2 k).length ≤ k := by
  have := List.length_filter_le (fun i => L1.getD i false && !L2.getD i false) (List.range k)
  simpa [lostOf] using this

def LoPost (w : World) (N : List (List Nat)) (R : List Nat) (wo : Nat) (e : Ending) (w' : World) : Prop :=
  ∃ L1 L2 a c, Bl N R (-1) L1 ∧ Bl N R wo L2 ∧ e = .returned (.tuple #[.slice a (lostOf L1 L2 N.length).length c, .int .i64 0]) ∧ w'.ownsRow w.heap.size 3 1 (.slice a (lostOf L1 L2 N.length).length c) (lostOf L1 L2 N.length).length ((ci (lostOf L1 L2 N.length)).map (Value.int .i64)) ∧ Ext [] w w'

set_option maxRecDepth 100000 in
set_option maxHeartbeats 2000000 in
theorem lost_any (N : List (List Nat)) (R : List Nat) (tg : Nat) (a : Option Addr) (n c : Nat) (ra : Option Addr) (rn rc : Nat) (w : World) (hN : Nt w a (cn N)) (hn : N.length = n) (hG : Good N R) (hR : Is w ra (ci R)) (hrn : R.length = rn) (hrb : rn ≤ 17592186044416) (hto : tg < n) :
    Calls Try.prog 18 #[.slice a n c, .slice ra rn rc, .int .i64 tg] w (LoPost w N R tg) := by
  have hE := Ext.alloc [] w (.cells #[.int .i64 tg] 3)
  have K := fault_any a n c ra rn rc (some ⟨w.heap.size, 0, none⟩) 1 1 (cn N) (ci R) [(tg : Int)] _ (hN.keep0 hE) (by rw [cn_len]; exact hn) (hR.keep0 hE) (by rw [ci_len]; exact hrn) hrb (one_is w tg) rfl (by omega)
  have h0 := good_err hG (T := [tg]) (by intro x hx; simp at hx; subst hx; omega)
  rw [show ci [tg] = [(tg : Int)] from rfl] at h0
  rw [h0] at K
  have K2 := reached_any N R (-1) a n c ra rn rc _ (hN.keep0 hE) hn hG (hR.keep0 hE) hrn hrb (.inl rfl)
  have HK3 : Hid (∀ W, Ext [] w W → Calls Try.prog 29 #[.slice a n c, .slice ra rn rc, .int .i64 tg] W (RePost W N R tg)) := fun W h => reached_any N R tg a n c ra rn rc W (hN.keep0 h) hn hG (hR.keep0 h) hrn hrb (.inr ⟨by omega, by omega⟩)
  have HE := hid hE
  have HNn := hid hn
  have hnb : n ≤ 65536 := by have := hG.len; omega
  clear hN hn hR hrn hG h0 hE
  go_enter Try.func18, Try.ntmps18
  go_wp2_with (go_at_call 28; refine met K ?_)
  refine K2.mono ?_
  clear K K2
  rintro e w1 ⟨v1, L1, rfl, hB1, ho1, hE1⟩
  have HB1 := hid hB1
  obtain ⟨a1, c1, rfl, _⟩ := own_slice ho1
  have HL1 := hid (show Os w1 a1 L1 from own_vs ho1)
  have HE1 := hid (HE.out.trans hE1)
  have K3 := HK3.out w1 HE1.out
  clear hB1 ho1 hE1 HK3 HE
  rw [HNn.out]
  go_wp2_with fail
  refine K3.mono ?_
  clear K3
  rintro e w2 ⟨v2, L2, rfl, hB2, ho2, hE2⟩
  have HB2 := hid hB2
  obtain ⟨a2, c2, rfl, _⟩ := own_slice ho2
  have HL2 := hid (show Os w2 a2 L2 from own_vs ho2)
  have HL12 := hid (HL1.out.keep0 hE2)
  have HE2 := hid (HE1.out.trans hE2)
  have HN1 : Hid (L1.length = n) := by show _ = _; rw [HB1.out.len, HNn.out]
  have HN2 : Hid (L2.length = n) := by show _ = _; rw [HB2.out.len, HNn.out]
  clear hB2 ho2 hE2 HL1 HE1
  rw [HNn.out]
  go_wp2_with fail
  go_loopg [11, 30] n (fun q lv u wr => ∃ k : Nat, k + q = n ∧ u = .int .i64 k ∧ Ext [] w2 wr ∧ wr.ownsRow w2.heap.size 3 1 lv (lostOf L1 L2 k).length ((ci (lostOf L1 L2 k)).map (Value.int .i64)))
  case atStart => exact ⟨0, by omega, rfl, Ext.refl _ _, own_nil _ _ _ _⟩
  case round =>
    obtain ⟨k, hkq, rfl, hE, ho⟩ := hrel
    have HE := hid hE
    have HO := hid ho
    obtain ⟨la, lc, hlv, _⟩ := own_slice ho
    subst hlv
    have hll := lostOf_len L1 L2 k
    clear hE ho
    cases gk with
    | zero =>
      obtain rfl : k = n := by omega
      go_wp2_with fail
      go_ret2
      refine ⟨L1, L2, la, lc, HB1.out, HB2.out, ?_, ?_, HE2.out.trans HE.out⟩
      · rw [HNn.out]; rfl
      · rw [HNn.out]
        exact own_base HO.out HE2.out.size
    | succ q =>
      have hkn : k < n := by omega
      obtain ⟨b1, o1, rfl, k1⟩ := (HL12.out.keep0 HE.out).cell (j := k) (by rw [HN1.out]; exact hkn)
      have HS := hid (lostOf_succ L1 L2 k)
      cases hv1 : L1.getD k false
      · rw [hv1] at k1 HS
        have HS2 : Hid (lostOf L1 L2 (k + 1) = lostOf L1 L2 k) := by show _ = _; rw [HS.out]; simp
        clear HS hv1
        go_wp2_with fail
        go_roundg q
        case measure => omega
        case rel => exact ⟨k + 1, by omega, by go_num, HE.out, by rw [HS2.out]; exact HO.out⟩
      · obtain ⟨b2, o2, rfl, k2⟩ := (HL2.out.keep0 HE.out).cell (j := k) (by rw [HN2.out]; exact hkn)
        rw [hv1] at k1 HS
        cases hv2 : L2.getD k false
        · rw [hv2] at k2 HS
          have HS2 : Hid (lostOf L1 L2 (k + 1) = lostOf L1 L2 k ++ [k]) := by show _ = _; rw [HS.out]; simp
          obtain ⟨v', W2, hr, hoo, hEE⟩ := put_one HE.out HO.out (k : Int) (by omega)
          obtain ⟨gl2, lc2, hv', _⟩ := hoo.form (by omega)
          subst hv'
          have HO2 : Hid (W2.ownsRow w2.heap.size 3 1 (.slice (some ⟨gl2, 0, none⟩) ((lostOf L1 L2 k).length + 1) lc2) (lostOf L1 L2 (k + 1)).length ((ci (lostOf L1 L2 (k + 1))).map (Value.int .i64))) := by
            show World.ownsRow _ _ _ _ _ _ _
            rw [HS2.out]
            simpa [ci] using hoo
          have HE3 := hid hEE
          clear HS hv1 hv2 hoo hEE
          go_wp2_with (at_builtin; refine wpList_append_run rfl _ _ 23 rfl _ _ _ rfl rfl hr ?_)
          go_roundg q
          case measure => omega
          case rel => exact ⟨k + 1, by omega, by go_num, HE3.out, HO2.out⟩
        · rw [hv2] at k2 HS
          have HS2 : Hid (lostOf L1 L2 (k + 1) = lostOf L1 L2 k) := by show _ = _; rw [HS.out]; simp
          clear HS hv1 hv2
          go_wp2_with fail
          go_roundg q
          case measure => omega
          case rel => exact ⟨k + 1, by omega, by go_num, HE.out, by rw [HS2.out]; exact HO.out⟩

end Go.Proofs.Ytfjabjnajcfamaa
