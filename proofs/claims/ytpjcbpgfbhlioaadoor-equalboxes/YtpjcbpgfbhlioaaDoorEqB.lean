/-
  The program's equality of cells and values; no statement is proved here.
-/
import Derived.Test.YtpjcbpgfbhlioaaDoorEqA
import Derived.Laws.Externs
import Derived.Deep.QuietTactic
namespace Go.Proofs.YtpjcbpgfbhlioaaDoor
open Go.RowKit

theorem frombits_run (n : Int) (w : World) : (callFunc 57 #[.int .u64 n]).run Tryd.prog w = .ok (.value (.float .f64 n.toNat)) w := by
  rw [run_callFunc_extern (e := Extern.MathFloatBits.float64frombits) Tryd.func57 (by kernel_rfl) (by kernel_rfl) (by kernel_rfl) (by rfl)]
  rfl
theorem feql_run (x y : Nat) (w : World) : (binOp .eql 83 (.float .f64 x) (.float .f64 y)).run Tryd.prog w = .ok (.bool (Op.floatEq .f64 x y)) w := by
  simp only [binOp]
  simp [Op.floatCmp, Op.floatEq]
theorem fneq_run (x y : Nat) (w : World) : (binOp .neq 83 (.float .f64 x) (.float .f64 y)).run Tryd.prog w = .ok (.bool (!Op.floatEq .f64 x y)) w := by
  simp only [binOp]
  simp [Op.floatCmp, Op.floatEq, bne]

theorem str_ne {s t : ByteArray} (h : s ≠ t) : (s.toList == t.toList) = false := by
  simp only [beq_eq_false_iff_ne, ne_eq]
  intro e
  rw [ByteArray.toList_eq, ByteArray.toList_eq] at e
  exact h (ByteArray.ext (Array.toList_inj.mp e))

def clV (c : Cl) (ba : Option Addr) (bc : Nat) : Value := .agg #[.int .u64 c.n, .string c.s, .int .i64 c.t, .slice ba c.box.length bc]
def paV (p : Bool × Int) : Value := .tuple #[.bool p.1, .int .i64 p.2]

/-- What is known of a cell that is handed on: what it holds lies in memory and is sound. -/
structure Bxd (ts : List Ty) (d : Nat) (w : World) (c : Cl) (ba : Option Addr) : Prop where
  cs : Cs d w ba c.box
  ok : c.t ≠ 0 → Boxable ts c.t ∧ Okv ts d (kinds ts (c.t - 1)) c.box
theorem Bxd.keep0 {ts : List Ty} {d : Nat} {w w' : World} {c : Cl} {ba : Option Addr} (h : Bxd ts d w c ba) (x : Ext [] w w') : Bxd ts d w' c ba := ⟨h.cs.keep0 x, h.ok⟩

/-- The comparison of values of this depth. -/
def EqAt (ts : List Ty) (ta : Option Addr) (tn tc d : Nat) (w0 : World) : Prop := ∀ (t : Nat) (a : Option Addr) (l : List Cl) (n c : Nat) (a' : Option Addr) (l' : List Cl) (n' c' : Nat) (w : World), Ext [] w0 w → t < tn → Cs d w a l → l.length = n → Okv ts d (kinds ts t) l → Cs d w a' l' → l'.length = n' → Okv ts d (kinds ts t) l' →
  Calls Tryd.prog 28 #[.slice ta tn tc, .int .i64 t, .slice a n c, .slice a' n' c'] w (SayPost w (paV (eqV ts d t l l')))

theorem boxable_bad {ts : List Ty} {t : Int} (hS : Sound ts) (h : Boxable ts t) : bad ts (t - 1) = 0 := bad_ok hS ⟨by have := h.1; omega, by have := h.2.1; omega⟩

set_option maxRecDepth 100000 in
set_option maxHeartbeats 4000000 in
theorem eqHeld_any (ts : List Ty) (ta : Option Addr) (tn tc : Nat) (htn : ts.length = tn) (hc : tn ≤ tc) (hS : Sound ts) (d : Nat) (w : World) (hT : Tab w ta ts) (hG : Gl w) (HR : EqAt ts ta tn tc d w) (x y : Cl) (ba ba' : Option Addr) (bc bc' : Nat) (hx : Bxd ts d w x ba) (hy : Bxd ts d w y ba') :
    Calls Tryd.prog 58 #[.slice ta tn tc, clV x ba bc, clV y ba' bc'] w (SayPost w (paV (eqC ts (eqV ts d) 7 x y))) := by
  have e7 : eqC ts (eqV ts d) 7 x y = if x.t ≠ y.t then (false, 0) else if x.t = 0 then (true, 0) else if cmpT ts (x.t - 1) = false then (false, 11) else eqV ts d (x.t - 1) x.box y.box := by
    unfold eqC; rw [if_neg (by omega), if_neg (by omega), if_pos rfl]
  rw [e7]
  unfold clV
  have HA : Hid (Ext [] w ((w.alloc (.cells #[.int .u64 x.n, .string x.s, .int .i64 x.t, .slice ba x.box.length bc] 49)).alloc (.cells #[.int .u64 y.n, .string y.s, .int .i64 y.t, .slice ba' y.box.length bc'] 49))) := (Ext.alloc _ _ _).trans (Ext.alloc _ _ _)
  by_cases h1 : x.t = y.t
  · rw [if_neg (by simp [h1])]
    have b1 : (x.t == y.t) = true := by simpa using h1
    by_cases h0 : x.t = 0
    · rw [if_pos h0]
      have b0 : (x.t == 0) = true := by simpa using h0
      unfold paV
      clear hT hG HR hx hy h1 h0 e7
      generalize x.box.length = xl at *
      generalize y.box.length = yl at *
      generalize x.t = xt at *
      generalize y.t = yt at *
      go_enter Tryd.func58, Tryd.ntmps58
      go_wp2_with fail
      go_ret2
      exact ⟨rfl, HA.out⟩
    · rw [if_neg h0]
      have b0 : (x.t == 0) = false := by simpa using h0
      obtain ⟨hb, hok⟩ := hx.ok h0
      obtain ⟨_, hok2⟩ := hy.ok (by rw [← h1]; exact h0)
      rw [← h1] at hok2
      obtain ⟨q, hq⟩ : ∃ q : Nat, x.t = (q : Int) + 1 := ⟨(x.t - 1).toNat, by have := hb.1; omega⟩
      have hqn : q < tn := by have := hb.2.1; omega
      have e1 : IntKind.wrap .i64 (x.t - 1) = q := by have := hT.len; rw [IntKind.wrap_i64]; omega
      have hbd := boxable_bad hS hb
      rw [show x.t - 1 = (q : Int) by omega] at hok hok2 hbd ⊢
      have K1 : Hid (∀ u, Ext [] w u → Calls Tryd.prog 42 #[.slice ta tn tc, .int .i64 q] u (SayPost u (.bool (cmpT ts q)))) := fun u hu => compared_any ta ts tn tc q u (hT.keep0 hu) htn hc (hG.keep0 hu) hbd
      have K2 : Hid (∀ u, Ext [] w u → Calls Tryd.prog 28 #[.slice ta tn tc, .int .i64 q, .slice ba x.box.length bc, .slice ba' y.box.length bc'] u (SayPost u (paV (eqV ts d q x.box y.box)))) := fun u hu => HR q ba x.box _ bc ba' y.box _ bc' u hu hqn (hx.cs.keep0 hu) rfl hok (hy.cs.keep0 hu) rfl hok2
      clear hT hG HR hx hy h1 h0 e7 hok hok2 hbd hb hq
      generalize cmpT ts q = cm at *
      generalize eqV ts d q x.box y.box = r at *
      generalize x.box.length = xl at *
      generalize y.box.length = yl at *
      generalize x.t = xt at *
      generalize y.t = yt at *
      have K1a := K1.out _ HA.out
      cases cm
      · rw [if_pos rfl]
        unfold paV
        clear K2
        go_enter Tryd.func58, Tryd.ntmps58
        go_wp2_with (first | (go_at_call 42; refine K1a.mono ?_; clear K1a; rintro e w1 ⟨rfl, hE1⟩; replace hE1 := hid hE1) | fail "no arm")
        go_ret2
        exact ⟨rfl, HA.out.trans hE1.out⟩
      · rw [if_neg (by simp)]
        obtain ⟨r1, r2⟩ := r
        unfold paV at K2 ⊢
        simp only at K2 ⊢
        have HC : Hid (∀ u, Ext [] ((w.alloc (.cells #[.int .u64 x.n, .string x.s, .int .i64 xt, .slice ba xl bc] 49)).alloc (.cells #[.int .u64 y.n, .string y.s, .int .i64 yt, .slice ba' yl bc'] 49)) u → u.cell? ⟨w.heap.size, 2, none⟩ = some (.int .i64 xt) ∧ u.cell? ⟨w.heap.size, 3, none⟩ = some (.slice ba xl bc) ∧ u.cell? ⟨w.heap.size + 1, 3, none⟩ = some (.slice ba' yl bc')) := fun u hu => by
          refine ⟨hu.cell ?_ (by simp), hu.cell ?_ (by simp), hu.cell ?_ (by simp)⟩
          · rw [cell_of_row _ _ _ _ _ _ (heap_alloc2_old _ _ _)]; rfl
          · rw [cell_of_row _ _ _ _ _ _ (heap_alloc2_old _ _ _)]; rfl
          · rw [cell_of_row _ _ _ _ _ _ (heap_alloc2_new _ _ _)]; rfl
        go_enter Tryd.func58, Tryd.ntmps58
        go_wp2_with (first | (go_at_call 42; refine K1a.mono ?_; clear K1a; rintro e w1 ⟨rfl, hE1⟩; obtain ⟨z2, z3, z4⟩ := HC.out w1 hE1; have K2a := K2.out w1 (HA.out.trans hE1); replace hE1 := hid hE1) | (go_at_call 28; refine K2a.mono ?_; clear K2a; rintro e w2 ⟨rfl, hE2⟩; replace hE2 := hid hE2) | fail "no arm")
        go_ret2
        exact ⟨rfl, (HA.out.trans hE1.out).trans hE2.out⟩
  · rw [if_pos h1]
    have b1 : (x.t == y.t) = false := by simpa using h1
    unfold paV
    clear hT hG HR hx hy h1 e7
    generalize x.box.length = xl at *
    generalize y.box.length = yl at *
    generalize x.t = xt at *
    generalize y.t = yt at *
    go_enter Tryd.func58, Tryd.ntmps58
    go_wp2_with fail
    go_ret2
    exact ⟨rfl, HA.out⟩

set_option maxRecDepth 100000 in
set_option maxHeartbeats 4000000 in
theorem eqCell_any (ts : List Ty) (ta : Option Addr) (tn tc : Nat) (htn : ts.length = tn) (hc : tn ≤ tc) (hS : Sound ts) (d : Nat) (w : World) (hT : Tab w ta ts) (hG : Gl w) (HR : EqAt ts ta tn tc d w) (k : Int) (x y : Cl) (ba ba' : Option Addr) (bc bc' : Nat) (hx : Bxd ts d w x ba) (hy : Bxd ts d w y ba') :
    Calls Tryd.prog 44 #[.slice ta tn tc, .int .i64 k, clV x ba bc, clV y ba' bc'] w (SayPost w (paV (eqC ts (eqV ts d) k x y))) := by
  have HA : Hid (Ext [] w ((w.alloc (.cells #[.int .u64 x.n, .string x.s, .int .i64 x.t, .slice ba x.box.length bc] 49)).alloc (.cells #[.int .u64 y.n, .string y.s, .int .i64 y.t, .slice ba' y.box.length bc'] 49))) := (Ext.alloc _ _ _).trans (Ext.alloc _ _ _)
  by_cases k3 : k = 3
  · subst k3
    have e : eqC ts (eqV ts d) 3 x y = (Op.floatEq .f64 x.n.toNat y.n.toNat, 0) := by unfold eqC; rw [if_pos rfl]
    rw [e]
    unfold clV paV
    have h1 := frombits_run x.n
    have h2 := frombits_run y.n
    have h3 := feql_run x.n.toNat y.n.toNat
    clear hT hG HR hx hy e
    generalize Op.floatEq .f64 x.n.toNat y.n.toNat = r at *
    go_enter Tryd.func44, Tryd.ntmps44
    go_wp2_with fail
    go_quiet (fail)
    go_wp2_with fail
    go_ret2
    exact ⟨rfl, HA.out.trans (Ext.drewN _ _ _)⟩
  · have b3 : (k == 3) = false := by simpa using k3
    by_cases k4 : k = 4
    · subst k4
      have e : eqC ts (eqV ts d) 4 x y = (decide (x.s = y.s), 0) := by unfold eqC; rw [if_neg (by omega), if_pos rfl]
      rw [e]
      unfold clV paV
      clear hT hG HR hx hy e
      by_cases hs : x.s = y.s
      · have hs2 : (x.s.toList == y.s.toList) = true := by simp [hs]
        rw [decide_eq_true hs]
        generalize x.s = xs at *
        generalize y.s = ys at *
        clear hs
        go_enter Tryd.func44, Tryd.ntmps44
        go_wp2_with fail
        go_ret2
        exact ⟨rfl, HA.out⟩
      · have hs2 : (x.s.toList == y.s.toList) = false := str_ne hs
        rw [decide_eq_false hs]
        generalize x.s = xs at *
        generalize y.s = ys at *
        clear hs
        go_enter Tryd.func44, Tryd.ntmps44
        go_wp2_with fail
        go_ret2
        exact ⟨rfl, HA.out⟩
    · have b4 : (k == 4) = false := by simpa using k4
      by_cases k7 : k = 7
      · subst k7
        have K := eqHeld_any ts ta tn tc htn hc hS d _ (hT.keep0 HA.out) (hG.keep0 HA.out) (fun t a l n c a' l' n' c' u hu => HR t a l n c a' l' n' c' u (HA.out.trans hu)) x y ba ba' bc bc' (hx.keep0 HA.out) (hy.keep0 HA.out)
        generalize eqC ts (eqV ts d) 7 x y = r at *
        obtain ⟨r1, r2⟩ := r
        unfold clV paV at K ⊢
        simp only at K ⊢
        clear hT hG HR hx hy
        go_enter Tryd.func44, Tryd.ntmps44
        go_wp2_with (first | (go_at_call 58; refine K.mono ?_; clear K; rintro e w1 ⟨rfl, hE1⟩; replace hE1 := hid hE1) | fail "no arm")
        go_ret2
        exact ⟨rfl, HA.out.trans hE1.out⟩
      · have b7 : (k == 7) = false := by simpa using k7
        have e : eqC ts (eqV ts d) k x y = (decide (x.n = y.n), 0) := by unfold eqC; rw [if_neg k3, if_neg k4, if_neg k7]
        rw [e]
        unfold clV paV
        clear hT hG HR hx hy e k3 k4 k7
        by_cases hs : x.n = y.n
        · have hs2 : (x.n == y.n) = true := by simpa using hs
          rw [decide_eq_true hs]
          generalize x.n = xs at *
          generalize y.n = ys at *
          clear hs
          go_enter Tryd.func44, Tryd.ntmps44
          go_wp2_with fail
          go_ret2
          exact ⟨rfl, HA.out⟩
        · have hs2 : (x.n == y.n) = false := by simpa using hs
          rw [decide_eq_false hs]
          generalize x.n = xs at *
          generalize y.n = ys at *
          clear hs
          go_enter Tryd.func44, Tryd.ntmps44
          go_wp2_with fail
          go_ret2
          exact ⟨rfl, HA.out⟩

end Go.Proofs.YtpjcbpgfbhlioaaDoor
