/-
  MEnd, MCmp, MOk, WCuts: joined by program; no statement is proved here.
-/
import Derived.Test.YtjbbomokgpoilaaGreatDoorZMI
import Derived.Test.YtjbbomokgpoilaaGreatDoorZMV
import Derived.Test.YtjbbomokgpoilaaGreatDoorZMJ
import Derived.Test.YtjbbomokgpoilaaGreatDoorZMG
import Derived.Laws.StructEq
import Derived.Test.YtjbbomokgpoilaaGreatDoorZME
/-
  Cycles without roots, in pieces and at one time; no statement is proved here.
-/
namespace Go.Proofs.YtjbbomokgpoilaaGreatDoor

/-! ### work in pieces -/

/-- A memory with another graph. -/
def Ms.wG (M : Ms) (G : Co.Gs) : Ms := { M with G := G }
theorem wG_wG (M : Ms) (G G' : Co.Gs) : (M.wG G).wG G' = M.wG G' := rfl
theorem frees_wG (l : List Int) (G : Co.Gs) : ∀ M : Ms, l.foldl freeM (M.wG G) = (l.foldl freeM M).wG G := by
  induction l with
  | nil => intro M; rfl
  | cons x l ih => intro M; exact ih (freeM M x)
theorem workM_w (M : Ms) (u : Nat) : workM M u = (((Co.work u M.G).2.1.map Int.ofNat).foldl freeM M).wG (Co.work u M.G).2.2 := frees_wG _ _ _
theorem workM_add (M : Ms) (a b : Nat) : workM M (a + b) = workM (workM M a) b := by
  have hG : (workM M a).G = (Co.work a M.G).2.2 := workM_G M a
  rw [workM_w (workM M a), hG, workM_w M a, frees_wG, wG_wG, workM_w M (a + b), Co.work_add]
  simp only [List.map_append, List.foldl_append]
theorem workM_more {M : Ms} {u v : Nat} (h : (Co.work u M.G).2.2.ph = 0) (hv : u ≤ v) : workM M v = workM M u := by
  unfold workM
  rw [(Co.work_more h hv).1, (Co.work_more h hv).2]
theorem workM_idle {M : Ms} (h : M.G.ph = 0) (u : Nat) : workM M u = M := by
  unfold workM
  rw [Co.work_idle h]
  rfl
def worksM (M : Ms) (us : List Int) : Ms := us.foldl (fun M u => workM M u.toNat) M
theorem worksM_sum : ∀ (us : List Int) (M : Ms), ∃ s, worksM M us = workM M s
  | [], M => ⟨0, by simp [worksM, workM, Co.work]⟩
  | u :: us, M => by
    obtain ⟨s, hs⟩ := worksM_sum us (workM M u.toNat)
    exact ⟨u.toNat + s, by rw [workM_add, ← hs]; rfl⟩
theorem worksM_take (M : Ms) (us : List Int) {k : Nat} (h : k < us.length) : worksM M (us.take (k + 1)) = workM (worksM M (us.take k)) (us.getD k 0).toNat := by
  unfold worksM
  rw [List.take_add_one, List.foldl_append]
  simp [List.getD, h]

/-! ### a cycle without roots -/

namespace Co
/-- No node is live. -/
def Void (G : Gs) : Prop := ∀ i, (ndAt G.ns i).c = 0 ∨ (ndAt G.ns i).c = 4
theorem Void.lv {G : Gs} (h : Void G) (x : Int) : lvB G x = false := by
  cases hb : lvB G x with
  | false => rfl
  | true =>
    obtain ⟨_, h1, h2⟩ := lvB_iff.1 hb
    rcases h x.toNat with q | q
    · exact absurd q h1
    · exact absurd q h2
theorem Void.sweep {G : Gs} (h : Void G) : Void (sweep G).1 := by
  unfold Co.sweep
  split
  · exact h
  · split
    · intro i
      by_cases hl : G.pl < G.ns.length
      · show (ndAt (G.ns.set G.pl nz) i).c = 0 ∨ (ndAt (G.ns.set G.pl nz) i).c = 4
        rw [ndAt_set hl]
        split
        · exact .inl rfl
        · exact h i
      · show (ndAt (G.ns.set G.pl nz) i).c = 0 ∨ (ndAt (G.ns.set G.pl nz) i).c = 4
        rw [List.set_eq_of_length_le (by omega)]
        exact h i
    · exact h
theorem void_work : ∀ (u : Nat) {G : Gs}, Iv G → G.ph ≠ 1 → Void G → Void (work u G).2.2
  | 0, _, _, _, h => h
  | u + 1, G, hI, h1, h => by
    by_cases h0 : G.ph = 0
    · rw [work_idle h0]; exact h
    · have hu : unit G = sweep G := by unfold unit; rw [if_neg h1]
      simp only [work, if_neg h0]
      refine void_work u (iv_unit hI h0) ?_ (by rw [hu]; exact h.sweep)
      rw [hu]
      rcases sweep_vals hI (by have := hI.ph; omega) with ⟨_, q, _⟩ | ⟨_, q, _⟩ <;> omega
/-- A cycle that begins without roots: nothing outlives it, and so many units are enough. -/
theorem empty_cycle {G : Gs} (hI : Iv G) (h0 : G.ph = 0) : (start G []).2 = 0 ∧ ∀ u, 65540 ≤ u → (work u (start G []).1).2.2.ph = 0 ∧ Void (work u (start G []).1).2.2 := by
  have e : start G [] = ({ G with ph := 1, ns := G.ns.map wh }, 0) := by
    unfold start
    rw [if_neg (by simpa using h0)]
    simp
  have hI1 := iv_start hI []
  rw [e] at hI1 ⊢
  refine ⟨rfl, fun u hu => ?_⟩
  simp only at hI1 ⊢
  have hln : G.ln = [] := (hI.idle (by omega)).1
  have hm : unit { G with ph := 1, ns := G.ns.map wh } = ({ G with ph := 2, ns := (G.ns.map wh).map die, ln := [], pl := 0, en := (G.ns.map wh).length }, []) := by
    unfold unit mark
    simp [hln]
  have hI2 := iv_unit hI1 (by simp)
  rw [hm] at hI2
  simp only at hI2
  have hV : Void { G with ph := 2, ns := (G.ns.map wh).map die, ln := [], pl := 0, en := (G.ns.map wh).length } := fun i => by
    by_cases hi : i < G.ns.length
    · show (ndAt ((G.ns.map wh).map die) i).c = 0 ∨ (ndAt ((G.ns.map wh).map die) i).c = 4
      rw [ndAt_map (by simpa using hi), ndAt_map hi]
      by_cases hc : (ndAt G.ns i).c ≠ 0 ∧ (ndAt G.ns i).c ≠ 4
      · right
        unfold wh die
        rw [if_pos hc]
        rfl
      · have : wh (ndAt G.ns i) = ndAt G.ns i := by unfold wh; rw [if_neg hc]
        rw [this]
        unfold die
        split
        · exact .inr rfl
        · omega
    · show (ndAt ((G.ns.map wh).map die) i).c = 0 ∨ (ndAt ((G.ns.map wh).map die) i).c = 4
      rw [ndAt_out (by simp; omega)]
      exact .inl rfl
  obtain ⟨v, rfl⟩ : ∃ v, u = v + 1 := ⟨u - 1, by omega⟩
  simp only [work, hm]
  have hlen := hI.len
  refine ⟨(work_ends v hI2 ?_).1, void_work v hI2 (by simp) hV⟩
  simp only [mu]
  simp
  omega
end Co

theorem void_fnd {M : Ms} (h : Co.Void M.G) (a : Int) : fndM M a = none := by
  unfold fndM
  split
  · rw [h.lv]; rfl
  · rfl

/-- Behind a whole cycle, one without roots ends in one state, however it is cut. -/
theorem cuts_same {M : Ms} (hI : Co.Iv M.G) (h0 : M.G.ph = 0) (us : List Int) :
    (begin9 M []).2 = 0 ∧ (collectM M []).2 = 0 ∧ workM (worksM (begin9 M []).1 us) 100000000 = (collectM M []).1 ∧ (collectM M []).1.G.ph = 0 ∧ Co.Void (collectM M []).1.G := by
  obtain ⟨h1, h2⟩ := Co.empty_cycle hI h0
  have hh : holdM M [] = M := rfl
  have hf : finishM M = M := workM_idle h0 _
  have e9 : begin9 M [] = (beginM M [], beginE M []) := by unfold begin9; rw [if_neg (by simpa using h0)]; rfl
  have e10 : collectM M [] = (cycleM M [], beginE M []) := by unfold collectM; simp only [nodesM]; rw [hh, hf]
  have hG : (beginM M []).G = (Co.start M.G []).1 := rfl
  rw [e9, e10]
  simp only
  obtain ⟨s, hs⟩ := worksM_sum us (beginM M [])
  have p1 := h2 65540 (Nat.le_refl _)
  rw [← hG] at p1 h2
  have hc : cycleM M [] = workM (beginM M []) 65540 := workM_more p1.1 (by omega)
  refine ⟨h1, h1, ?_, ?_, ?_⟩
  · rw [hs, ← workM_add, hc]
    exact workM_more p1.1 (by omega)
  · rw [hc, workM_G]; exact p1.1
  · rw [hc, workM_G]; exact p1.2
theorem collect_idle {M : Ms} (hI : Co.Iv M.G) {R l : List Int} (hl : nodesM M R = some l) (hk : Co.Iv (finishM (holdM M l)).G) : (collectM M R).1.G.ph = 0 ∧ ((finishM (holdM M l)).G.ph = 0) := by
  unfold collectM
  rw [hl]
  simp only
  unfold cycleM finishM
  rw [workM_G, workM_G]
  refine ⟨?_, ?_⟩
  · refine (Co.Fin.of_ge ?_ (by omega)).1
    have : (beginM (workM (holdM M l) 9223372036854775807) l).G = (Co.start (workM (holdM M l) 9223372036854775807).G l).1 := rfl
    rw [this]
    exact Co.iv_start hk l
  · exact (Co.Fin.of_ge (iv_hold l _ hI) (by omega)).1

/-! ### a script's cycles -/
theorem grow_gi (S : List Oq) : ∀ {s : Ms × List Int} {b i : Nat}, (∀ q ∈ S, 0 ≤ q.V ∧ q.V < 18446744073709551616) → Gi s (b + 2 * S.length) i → Jd s.1 [] → i + S.length ≤ 10000000000000 → Gi (growM s S) b (i + S.length) := by
  induction S with
  | nil => intro s b i _ h _ _; exact h
  | cons q S ih =>
    intro s b i hq h hj hi
    simp only [List.length_cons] at h hi ⊢
    obtain ⟨M, L⟩ := s
    have h1 := do_gi (b := b + 2 * S.length) (by rw [show b + 2 * S.length + 2 = b + 2 * (S.length + 1) by omega]; exact h) hj.hv (by omega) q
    have := ih (s := doM M L q) (fun x hx => hq x (List.mem_cons_of_mem _ hx)) h1 (hj.do q (hq q (List.mem_cons_self ..))) (by omega)
    rw [show i + (S.length + 1) = i + 1 + S.length by omega]
    exact this
theorem grown_gi (x pc : Int) (S : List Oq) (hS : ∀ q ∈ S, 0 ≤ q.V ∧ q.V < 18446744073709551616) (hl : S.length ≤ 2000000000000) : Gi (grownM x pc S) 12 S.length := by
  have hpg : pgF x ≤ 1024 := by unfold pgF; split <;> omega
  have h := grow_gi S (s := (newM (pgF x) pc x0, [])) (b := 12) (i := 0) hS ⟨mk_new9 hpg pc _ (by omega), by simp [newM], by simp [newM], by simp, fun y hy => by cases hy⟩ (jd_new hpg pc) (by omega)
  rw [Nat.zero_add] at h
  exact h
theorem Mk.less {M : Ms} {b c : Nat} (h : Mk M b) (hc : c ≤ b) : Mk M c := ⟨h.iv, h.ad, by have := h.cy; omega, h.sn, h.ob⟩
end Go.Proofs.YtjbbomokgpoilaaGreatDoor

/-
  Views that are the same; live addresses; no statement is proved here.
-/
namespace Go.Proofs.YtjbbomokgpoilaaGreatDoor
open Go.RowKit

theorem neq_of_eql {t : TypeId} {a b : Array Value} {r : Bool} {w : World} (h : (binOp .eql t (.agg a) (.agg b)).run Tryz.prog w = .ok (.bool r) w) : (binOp .neq t (.agg a) (.agg b)).run Tryz.prog w = .ok (.bool (!r)) w := by
  rw [run_eql_struct] at h
  rw [run_neq_struct]
  cases hq : (Op.equalIn 10000 t (.agg a) (.agg b)).run Tryz.prog w with
  | ok b w' =>
    rw [hq] at h
    simp only [Result.andThen_ok, Result.ok.injEq, Value.bool.injEq] at h ⊢
    obtain ⟨rfl, rfl⟩ := h
    exact ⟨rfl, rfl⟩
  | halt a b => rw [hq] at h; simp [Result.andThen] at h
theorem eql_rn (a b : Int) (c : Bool) (w : World) : (binOp .eql 98 (.agg #[.int .i64 a, .int .i64 b, .bool c]) (.agg #[.int .i64 a, .int .i64 b, .bool c])).run Tryz.prog w = .ok (.bool true) w := by
  have u3 := Tryz.underlying3
  have a3 := Tryz.isAgg3
  have z3 := Tryz.sizeOf3
  have u4 := Tryz.underlying4
  have a4 := Tryz.isAgg4
  have z4 := Tryz.sizeOf4
  have hS : Tryz.prog.underlying 98 = some (.struct (Tryz.prog.fieldsOf 98)) := by kernel_rfl
  have hp : Tryz.prog.stoodInHeld 98 = false := by kernel_rfl
  rw [run_eql_struct, show (10000 : Nat) = 9999 + 1 from rfl, run_equalIn_agg w 9999 98 _ _ hS hp]
  simp only [Program.fieldsOf, Tryz.underlying98]
  go_simp
set_option maxRecDepth 100000 in
set_option maxHeartbeats 2000000 in
theorem sameRuns_t (v v' : Value) (L : List Rn) (w : World) (hA : Lst w v L) (hB : Lst w v' L) (hlen : L.length ≤ 1000000) : Calls Tryz.prog 96 #[v, v'] w (SayPost w (.bool true)) := by
  obtain ⟨a, c, rfl, _⟩ := hA.slice
  obtain ⟨a', c', rfl, _⟩ := hB.slice
  have HA := hid hA
  have HB := hid hB
  clear hA hB
  generalize hn : L.length = n at *
  have HN := hid hn
  clear hn
  go_enter Tryz.func96, Tryz.ntmps96
  go_wp2_with fail
  go_loopw [5] (fun q wr => ∃ k : Nat, q = .int .i64 k ∧ k ≤ n ∧ Ext [] w wr) (fun q _ => (n - (intOf q)).toNat)
  case atStart => exact ⟨0, rfl, Nat.zero_le _, Ext.refl _ _⟩
  case round =>
    obtain ⟨k, rfl, hk, hE⟩ := hrel
    have HE := hid hE
    clear hE
    by_cases hlt : k < n
    · obtain ⟨g, c1, hv, c0, c1', c2⟩ := lst_at (HA.out.keep0 HE.out) (k := k) (by rw [HN.out]; exact hlt)
      obtain ⟨g', c3, hv2, d0, d1, d2⟩ := lst_at (HB.out.keep0 HE.out) (k := k) (by rw [HN.out]; exact hlt)
      simp only [Value.slice.injEq] at hv hv2
      obtain ⟨rfl, _, rfl⟩ := hv
      obtain ⟨rfl, _, rfl⟩ := hv2
      have hq := fun w => neq_of_eql (eql_rn (L[k]'(by rw [HN.out]; exact hlt)).s (L[k]'(by rw [HN.out]; exact hlt)).n (L[k]'(by rw [HN.out]; exact hlt)).u w)
      generalize (L[k]'(by rw [HN.out]; exact hlt)) = x at *
      simp only [Bool.not_true] at hq
      go_wp2_with fail
      go_quiet (fail)
      go_wp2_with fail
      go_roundw
      case rel => exact ⟨k + 1, by go_num, by omega, HE.out.trans (Ext.drewN [] _ _)⟩
      case measure => simp [intOf]; omega
    · obtain rfl : k = n := by omega
      go_wp2_with fail
      go_ret
      exact ⟨rfl, HE.out⟩
theorem sameRuns2_t (v v' : Value) (L : List Rn) (w : World) (hA : Lst w v L) (hB : Lst w v' L) (hlen : L.length ≤ 1000000) : Calls Tryz.prog 59 #[v, v'] w (SayPost w (.bool true)) := by
  have K := sameRuns_t v v' L w hA hB hlen
  clear hA hB
  go_enter Tryz.func59, Tryz.ntmps59
  go_wp2_with fail
  refine K.mono ?_
  clear K
  rintro e w1 ⟨rfl, hE⟩
  have HE := hid hE
  clear hE
  go_wp2
  go_ret
  exact ⟨rfl, HE.out⟩


set_option maxRecDepth 100000 in
theorem sameObjs_nil (a b : Option Addr) (c d : Nat) (w : World) : Calls Tryz.prog 58 #[.slice a 0 c, .slice b 0 d] w (SayPost w (.bool true)) := by
  go_enter Tryz.func58, Tryz.ntmps58
  go_wp2_with fail
  go_loopw [5] (fun q wr => q = .int .i64 0 ∧ wr = w) (fun _ _ => 0)
  case atStart => exact ⟨rfl, rfl⟩
  case round =>
    obtain ⟨rfl, rfl⟩ := hrel
    go_wp2_with fail
    go_ret
    exact ⟨rfl, Ext.refl _ _⟩
set_option maxRecDepth 100000 in
set_option maxHeartbeats 4000000 in
theorem sameView_t (va vb fa fb ra rb : Option Addr) (vc vd fc fd rc rd f r : Nat) (ph cy : Int) (F : List Rn) (R : List Int) (w : World) (hf : F.length = f) (hr : R.length = r) (hfl : f ≤ 1000000) (hrl : r ≤ 17592186044416) (hF : Lst w (.slice fa f fc) F) (hF2 : Lst w (.slice fb f fd) F) (hR : Co.Is w ra R) (hR2 : Co.Is w rb R) :
    Calls Tryz.prog 29 #[.agg #[.slice va 0 vc, .slice fa f fc, .slice ra r rc, .int .i64 ph, .int .i64 cy], .agg #[.slice vb 0 vd, .slice fb f fd, .slice rb r rd, .int .i64 ph, .int .i64 cy]] w (SayPost w (.bool true)) := by
  have KO := fun u => sameObjs_nil va vb vc vd u
  have KF := fun u (hu : Ext [] w u) => sameRuns2_t (.slice fa f fc) (.slice fb f fd) F u (hF.keep0 hu) (hF2.keep0 hu) (by omega)
  have KR := fun u (hu : Ext [] w u) => Co.sameInts_true ra rb r rc rd R u (hR.keep0 (co_ext hu)) (hR2.keep0 (co_ext hu)) hr hrl
  obtain ⟨W2, hW2⟩ : ∃ W2, (w.alloc (.cells #[.slice va 0 vc, .slice fa f fc, .slice ra r rc, .int .i64 ph, .int .i64 cy] 40)).alloc (.cells #[.slice vb 0 vd, .slice fb f fd, .slice rb r rd, .int .i64 ph, .int .i64 cy] 40) = W2 := ⟨_, rfl⟩
  have hE2 : Ext [] w W2 := by rw [← hW2]; exact (Ext.alloc [] _ _).trans (Ext.alloc [] _ _)
  have h1 : W2.heap[w.heap.size]? = some (.cells #[.slice va 0 vc, .slice fa f fc, .slice ra r rc, .int .i64 ph, .int .i64 cy] 40 (0, 0)) := by rw [← hW2]; exact (Ext.alloc [] _ _).keep (heap_alloc_new _ _) (by simp)
  have h2 : W2.heap[w.heap.size + 1]? = some (.cells #[.slice vb 0 vd, .slice fb f fd, .slice rb r rd, .int .i64 ph, .int .i64 cy] 40 (0, 0)) := by
    rw [← hW2]
    have := heap_alloc_new (w.alloc (.cells #[.slice va 0 vc, .slice fa f fc, .slice ra r rc, .int .i64 ph, .int .i64 cy] 40)) (.cells #[.slice vb 0 vd, .slice fb f fd, .slice rb r rd, .int .i64 ph, .int .i64 cy] 40)
    simpa using this
  obtain ⟨z, hz⟩ : ∃ z, w.heap.size = z := ⟨_, rfl⟩
  rw [hz] at h1 h2
  have HZ := hid hz
  have H1 := hid h1
  have H2 := hid h2
  have HE2 := hid hE2
  have HW2 := hid hW2
  have HC : Hid (∀ u, Ext [] W2 u → u.cell? ⟨z, 0, none⟩ = some (.slice va 0 vc) ∧ u.cell? ⟨z, 1, none⟩ = some (.slice fa f fc) ∧ u.cell? ⟨z, 2, none⟩ = some (.slice ra r rc) ∧ u.cell? ⟨z, 3, none⟩ = some (.int .i64 ph) ∧ u.cell? ⟨z, 4, none⟩ = some (.int .i64 cy) ∧ u.cell? ⟨z + 1, 0, none⟩ = some (.slice vb 0 vd) ∧ u.cell? ⟨z + 1, 1, none⟩ = some (.slice fb f fd) ∧ u.cell? ⟨z + 1, 2, none⟩ = some (.slice rb r rd) ∧ u.cell? ⟨z + 1, 3, none⟩ = some (.int .i64 ph) ∧ u.cell? ⟨z + 1, 4, none⟩ = some (.int .i64 cy)) := fun u hu => by
    have g1 := hu.keep H1.out (by simp)
    have g2 := hu.keep H2.out (by simp)
    refine ⟨?_, ?_, ?_, ?_, ?_, ?_, ?_, ?_, ?_, ?_⟩
    all_goals first
      | (rw [cell_of_row _ _ _ _ _ _ g1]; rfl)
      | (rw [cell_of_row _ _ _ _ _ _ g2]; rfl)
  clear hF hF2 hR hR2 h1 h2 hE2 hW2 hz
  go_enter Tryz.func29, Tryz.ntmps29
  obtain ⟨a0, a1, a2, a3, a4, b0, b1, b2, b3, b4⟩ := HC.out W2 (Ext.refl _ _)
  go_upto_region 1 with fail
  rw [HW2.out, HZ.out]
  go_wp2_with fail
  refine (KO _).mono ?_
  rintro e w3 ⟨rfl, hE3⟩
  clear a0 a1 a2 a3 a4 b0 b1 b2 b3 b4
  obtain ⟨a0, a1, a2, a3, a4, b0, b1, b2, b3, b4⟩ := HC.out w3 hE3
  have HE3 := hid hE3
  have K2 := KF w3 (HE2.out.trans hE3)
  clear hE3 KO KF
  go_wp2_with fail
  refine K2.mono ?_
  clear K2
  rintro e w4 ⟨rfl, hE4⟩
  clear a0 a1 a2 a3 a4 b0 b1 b2 b3 b4
  obtain ⟨a0, a1, a2, a3, a4, b0, b1, b2, b3, b4⟩ := HC.out w4 (HE3.out.trans hE4)
  have HE4 := hid (HE3.out.trans hE4)
  have K2 := KR w4 (HE2.out.trans HE4.out)
  clear hE4 KR HE3
  go_wp2_with fail
  refine K2.mono ?_
  clear K2
  rintro e w5 ⟨rfl, hE5⟩
  have hE5 := ext_co hE5
  clear a0 a1 a2 a3 a4 b0 b1 b2 b3 b4
  obtain ⟨a0, a1, a2, a3, a4, b0, b1, b2, b3, b4⟩ := HC.out w5 (HE4.out.trans hE5)
  have HE5 := hid ((HE2.out.trans HE4.out).trans hE5)
  clear hE5
  go_wp2_with fail
  go_ret
  exact ⟨rfl, HE5.out⟩

/-! ### the live ones among addresses -/
def liveM (M : Ms) (R : List Int) : List Int := R.filter (fun a => (fndM M a).isSome)
theorem liveM_succ (M : Ms) (R : List Int) {k : Nat} (h : k < R.length) : liveM M (R.take (k + 1)) = liveM M (R.take k) ++ match fndM M (R.getD k 0) with
  | none => []
  | some _ => [R.getD k 0] := by
  unfold liveM
  rw [List.take_add_one, List.filter_append, List.getElem?_eq_getElem h]
  have hg : R.getD k 0 = R[k] := by simp [List.getD, h]
  rw [hg]
  cases e : fndM M R[k] <;> simp [e]
theorem liveM_len (M : Ms) (R : List Int) : (liveM M R).length ≤ R.length := List.length_filter_le _ _
def LiPost (u : World) (b : Bool) (e : Ending) (w' : World) : Prop := ∃ a s t ad m d, e = .returned (.tuple #[.agg #[.int .i64 a, .int .i64 s, .int .i64 t, .slice ad m d], .int .i64 (if b then 0 else 4)]) ∧ Ext [] u w'
section
variable {w : World} {p : Nat} {M : Ms} {Z : Nat → Prop}
set_option maxRecDepth 100000 in
set_option maxHeartbeats 4000000 in
theorem mlive_any (h : Mw w p M Z) {b : Nat} (hk : Mk M b) (hj : Jd M []) (ra : Option Addr) (n c : Nat) (R : List Int) (hI : Co.Is w ra R) (hn : R.length = n) (hb : n ≤ 17592186044414) (hi : ∀ x ∈ R, I64 x) :
    Calls Tryz.prog 27 #[.pointer (some ⟨p, 0, none⟩), .slice ra n c] w (Co.ClPost w (liveM M R)) := by
  have HK : Hid (∀ u x, Ext [] w u → x ∈ R → Calls Tryz.prog 12 #[.pointer (some ⟨p, 0, none⟩), .int .i64 x] u (LiPost u (fndM M x).isSome)) := fun u x hu hx => (minfo_any (h.keep0 hu) hk x (hi x hx)).mono (by
    rintro e w' ⟨hE, hp⟩
    cases hf : fndM M x with
    | none =>
      rw [hf] at hp
      subst hp
      exact ⟨0, 0, 0, none, 0, 0, rfl, hE⟩
    | some o =>
      rw [hf] at hp
      obtain ⟨v, x', s, t, er, rfl, hv, ho⟩ := hp
      rw [(hj.info hf).1] at hv
      simp only [obV, Value.tuple.injEq, Value.agg.injEq, Value.int.injEq, Array.mk.injEq, List.cons.injEq, and_true, true_and] at hv
      obtain ⟨_, rfl⟩ := hv
      obtain ⟨ad, d, rfl, _⟩ := own_slice ho
      exact ⟨_, _, _, _, _, _, rfl, hE⟩)
  have HI := hid hI
  clear h hk hj hI hi
  go_enter Tryz.func27, Tryz.ntmps27
  go_wp2_with fail
  go_loopw [5, 6] (fun v q wr => ∃ (k : Nat), q = .int .i64 k ∧ k ≤ n ∧ (∃ ad m d, v = .slice ad m d) ∧ wr.ownsRow w.heap.size 3 1 v (liveM M (R.take k)).length (lI (liveM M (R.take k))) ∧ Ext [] w wr) (fun _ q _ => (n - (intOf q)).toNat)
  case atStart => exact ⟨0, rfl, Nat.zero_le _, ⟨_, _, _, rfl⟩, own_nil _ _ _ _, Ext.refl _ _⟩
  case round =>
    obtain ⟨k, rfl, hk, ⟨ad, m, d, rfl⟩, hO, hE⟩ := hrel
    have HO := hid hO
    have HE := hid hE
    by_cases hlt : k < n
    · have hkl : k < R.length := by omega
      obtain ⟨b', o', rfl, hcell⟩ := Co.Is.cell (HI.out.keep0 (co_ext hE)) hkl
      have hS := liveM_succ M R hkl
      have hvl := liveM_len M (R.take k)
      simp only [List.length_take] at hvl
      have hxm : R.getD k 0 ∈ R := by rw [show R.getD k 0 = R[k] by simp [List.getD, hkl]]; exact List.getElem_mem hkl
      have K := HK.out wr (R.getD k 0) hE hxm
      clear hO hE hxm
      generalize R.getD k 0 = x at *
      cases hf : fndM M x with
      | none =>
        rw [hf] at hS K
        simp only [List.append_nil] at hS
        have HS := hid hS
        clear hS hvl hf
        go_wp2_with fail
        refine K.mono ?_
        clear K
        rintro e w1 ⟨a, s, t, ad1, m1, d1, rfl, hE1⟩
        simp only [Option.isSome_none, Bool.false_eq_true, if_false]
        have HE1 := hid (hE1.trans (Ext.alloc [] w1 (.cells #[.int .i64 a, .int .i64 s, .int .i64 t, .slice ad1 m1 d1] 34)))
        clear hE1
        go_wp2_with fail
        go_roundw
        case rel => exact ⟨k + 1, by go_num, by omega, ⟨_, _, _, rfl⟩, by rw [HS.out]; exact own_keep0 HO.out HE1.out, HE.out.trans HE1.out⟩
        case measure => simp [intOf]; omega
      | some o =>
        rw [hf] at hS K
        simp only at hS
        clear hf
        go_wp2_with fail
        refine K.mono ?_
        clear K
        rintro e w1 ⟨a, s, t, ad1, m1, d1, rfl, hE1⟩
        simp only [Option.isSome_some, if_true]
        have hE2 := hE1.trans (Ext.alloc [] w1 (.cells #[.int .i64 a, .int .i64 s, .int .i64 t, .slice ad1 m1 d1] 34))
        have hc2 := hE2.cell hcell (by simp)
        obtain ⟨W2, hW2⟩ : ∃ W2, w1.alloc (.cells #[.int .i64 a, .int .i64 s, .int .i64 t, .slice ad1 m1 d1] 34) = W2 := ⟨_, rfl⟩
        rw [hW2] at hE2 hc2
        have HW2 := hid hW2
        clear hW2
        obtain ⟨v', w2, hr, ho2, hE3⟩ := app_int w _ (HE.out.trans hE2) (.slice ad m d) _ (own_keep0 HO.out hE2) x 32 (by omega)
        obtain ⟨a2, c2, e2, _⟩ := own_slice ho2
        subst e2
        have HO2 : Hid (w2.ownsRow w.heap.size 3 1 (.slice a2 (liveM M (R.take k) ++ [x]).length c2) (liveM M (R.take (k + 1))).length (lI (liveM M (R.take (k + 1))))) := by rw [hS]; exact ho2
        have HE3 := hid hE3
        clear ho2 hE3 hS hE2 hE1 hvl hcell hkl hn
        generalize (liveM M (R.take k) ++ [x]).length = nn at *
        go_upto_region 7 with fail
        rw [HW2.out]
        go_wp2_with (first | (at_builtin; refine wpList_append_run rfl _ _ 32 rfl _ _ _ rfl rfl hr ?_) | fail "no arm")
        go_roundw
        case rel => exact ⟨k + 1, by go_num, by omega, ⟨_, _, _, rfl⟩, HO2.out, HE3.out⟩
        case measure => simp [intOf]; omega
    · obtain rfl : k = n := by omega
      clear hO hE
      go_wp2_with fail
      go_ret
      have := HO.out
      rw [List.take_of_length_le (by omega)] at this
      exact ⟨_, rfl, this, co_ext HE.out⟩
end
end Go.Proofs.YtjbbomokgpoilaaGreatDoor

/-
  What live roots name outlives the cycle that runs, so a collection with them is done; no statement is proved here.
-/
namespace Go.Proofs.YtjbbomokgpoilaaGreatDoor

namespace Co
/-- A node that is grey or black. -/
def Nb (G : Gs) (i : Nat) : Prop := (ndAt G.ns i).c = 2 ∨ (ndAt G.ns i).c = 3
theorem Nb.lt {G : Gs} {i : Nat} (h : Nb G i) : i < G.ns.length := by
  refine lvN_lt (G := G) ⟨?_, ?_⟩ <;> rcases h with q | q <;> omega
theorem Nb.sh {G : Gs} {i : Nat} (h : Nb G i) (x : Int) : Nb (Co.sh G x) i := by
  unfold Nb
  rw [sh_nw _ _ _ (by rcases h with q | q <;> omega)]
  exact h
theorem Nb.mark {G : Gs} {i : Nat} (hI : Iv G) (h : Nb G i) : Nb (Co.mark G) i := by
  have hi := h.lt
  unfold Co.mark
  cases hln : G.ln with
  | nil =>
    show (ndAt (G.ns.map die) i).c = 2 ∨ (ndAt (G.ns.map die) i).c = 3
    rw [ndAt_map hi]
    unfold die
    rw [if_neg (by rcases h with q | q <;> omega)]
    exact h
  | cons x t =>
    have hx : x < G.ns.length := Nb.lt (.inl ((hI.grey x).2 (by rw [hln]; exact List.mem_cons_self ..)))
    simp only
    split
    · show (ndAt (G.ns.set x _) i).c = 2 ∨ (ndAt (G.ns.set x _) i).c = 3
      rw [ndAt_set hx]
      split
      · exact .inr rfl
      · exact h
    · refine Nb.sh ?_ _
      show (ndAt (G.ns.set x _) i).c = 2 ∨ (ndAt (G.ns.set x _) i).c = 3
      rw [ndAt_set hx]
      split
      · rename_i e
        subst e
        exact h
      · exact h
theorem Nb.sweep {G : Gs} {i : Nat} (h : Nb G i) : Nb (Co.sweep G).1 i := by
  unfold Co.sweep
  split
  · exact h
  · split
    · rename_i h4
      have hl : G.pl < G.ns.length := by
        refine Nat.lt_of_not_le fun hh => ?_
        rw [ndAt_out hh] at h4
        cases h4
      show (ndAt (G.ns.set G.pl nz) i).c = 2 ∨ (ndAt (G.ns.set G.pl nz) i).c = 3
      rw [ndAt_set hl]
      split
      · rename_i e
        subst e
        rcases h with q | q <;> omega
      · exact h
    · exact h
theorem Nb.work : ∀ (u : Nat) {G : Gs} {i : Nat}, Iv G → Nb G i → Nb (work u G).2.2 i
  | 0, _, _, _, h => h
  | u + 1, G, i, hI, h => by
    by_cases h0 : G.ph = 0
    · rw [work_idle h0]; exact h
    · simp only [Co.work, if_neg h0]
      refine Nb.work u (iv_unit hI h0) ?_
      unfold unit
      split
      · exact h.mark hI
      · exact h.sweep
theorem Nb.shade {G : Gs} {i : Nat} (h : Nb G i) (x : Int) : Nb (Co.shade G x).1 i := by
  unfold Co.shade
  split
  · exact h
  · exact h.sh x
theorem Nb.holds {i : Nat} : ∀ (l : List Int) {G : Gs}, Nb G i → Nb (l.foldl (fun G n => (Co.shade G n).1) G) i
  | [], _, h => h
  | x :: l, _, h => Nb.holds l (h.shade x)
theorem shade_nb {G : Gs} (hI : Iv G) {x : Int} (h : lvB G x = true) : Nb (Co.shade G x).1 x.toNat := by
  obtain ⟨h0, h1, h2⟩ := lvB_iff.1 h
  unfold Co.shade
  rw [if_neg (by rw [h]; decide)]
  show Nb (Co.sh G x) x.toNat
  unfold Co.sh shN
  rw [if_neg (by omega)]
  have hc := hI.col x.toNat
  split
  · refine .inl ?_
    show (ndAt (G.ns.set x.toNat _) x.toNat).c = 2
    rw [ndAt_set (lvN_lt (G := G) ⟨h1, h2⟩), if_pos rfl]
  · unfold Nb
    omega
theorem hold_nb : ∀ (l : List Int) {G : Gs}, Iv G → (∀ x ∈ l, lvB G x = true) → ∀ x ∈ l, Nb (l.foldl (fun G n => (Co.shade G n).1) G) x.toNat
  | [], _, _, _, _, hx => by cases hx
  | y :: l, G, hI, hl, x, hx => by
    rw [List.foldl_cons]
    rcases List.mem_cons.1 hx with rfl | hx
    · exact Nb.holds l (shade_nb hI (hl _ (List.mem_cons_self ..)))
    · refine hold_nb l (iv_shade hI y) (fun z hz => ?_) x hx
      have := hl z (List.mem_cons_of_mem _ hz)
      unfold Co.shade
      split
      · exact this
      · rw [sh_lvB]; exact this
end Co

theorem nodes_live (M : Ms) : ∀ R : List Int, ∃ l, nodesM M (liveM M R) = some l ∧ ∀ x ∈ l, Co.lvB M.G x = true
  | [] => ⟨[], rfl, by simp⟩
  | a :: R => by
    obtain ⟨l, h1, h2⟩ := nodes_live M R
    unfold liveM at h1 ⊢
    rw [List.filter_cons]
    cases hf : fndM M a with
    | none => exact ⟨l, by simpa using h1, h2⟩
    | some o =>
      simp only [Option.isSome_some, if_true]
      rw [nodesM_cons, hf, h1]
      by_cases h0 : a = 0
      · rw [if_pos h0]; exact ⟨l, rfl, h2⟩
      · rw [if_neg h0]
        refine ⟨o.nd :: l, rfl, fun x hx => ?_⟩
        rcases List.mem_cons.1 hx with rfl | hx
        · unfold fndM at hf
          split at hf
          · split at hf
            · cases hf; assumption
            · cases hf
          · cases hf
        · exact h2 x hx
theorem collect_ok {M : Ms} (hI : Co.Iv M.G) {R l : List Int} (hl : nodesM M R = some l) (hlv : ∀ x ∈ l, Co.lvB M.G x = true) : (collectM M R).2 = 0 ∧ (collectM M R).1.G.ph = 0 := by
  have hI2 : Co.Iv (holdM M l).G := iv_hold l _ hI
  have hI3 : Co.Iv (finishM (holdM M l)).G := by unfold finishM; rw [workM_G]; exact Co.iv_work _ hI2
  obtain ⟨h1, h2⟩ := collect_idle hI hl hI3
  refine ⟨?_, h1⟩
  unfold collectM
  rw [hl]
  show (Co.start (finishM (holdM M l)).G l).2 = 0
  unfold Co.start
  rw [if_neg (by simpa using h2)]
  have hall : l.all (Co.lvB (finishM (holdM M l)).G) = true := by
    rw [List.all_eq_true]
    intro x hx
    have hn := Co.hold_nb l hI hlv x hx
    have hn2 : Co.Nb (finishM (holdM M l)).G x.toNat := by
      unfold finishM
      rw [workM_G]
      exact Co.Nb.work _ hI2 hn
    refine Co.lvB_iff.2 ⟨(Co.lvB_iff.1 (hlv x hx)).1, ?_, ?_⟩ <;> rcases hn2 with q | q <;> omega
  rw [if_neg (by rw [hall]; decide)]
end Go.Proofs.YtjbbomokgpoilaaGreatDoor

/-
  The walk through MemoryCuts; no statement is proved here.
-/
namespace Go.Proofs.YtjbbomokgpoilaaGreatDoor
open Go.RowKit

/-- Two memories side by side, neither in the other's blocks. -/
structure Tw (lo : Nat) (u : World) (p1 p2 : Nat) (M1 M2 : Ms) (Y1 Y2 : Nat → Prop) : Prop where
  m1 : Mw u p1 M1 Y1
  m2 : Mw u p2 M2 Y2
  d : ∀ k, Y1 k → ¬ Y2 k
  l1 : ∀ k, Y1 k → lo ≤ k ∧ k < u.heap.size
  l2 : ∀ k, Y2 k → lo ≤ k ∧ k < u.heap.size
section
variable {lo : Nat} {u u' : World} {p1 p2 : Nat} {M1 M2 M' : Ms} {Y1 Y2 : Nat → Prop}
theorem Tw.keep0 (h : Tw lo u p1 p2 M1 M2 Y1 Y2) (x : Ext [] u u') : Tw lo u' p1 p2 M1 M2 Y1 Y2 :=
  ⟨h.m1.keep0 x, h.m2.keep0 x, h.d, fun k hk => ⟨(h.l1 k hk).1, Nat.lt_of_lt_of_le (h.l1 k hk).2 x.size⟩, fun k hk => ⟨(h.l2 k hk).1, Nat.lt_of_lt_of_le (h.l2 k hk).2 x.size⟩⟩
theorem Tw.swap (h : Tw lo u p1 p2 M1 M2 Y1 Y2) : Tw lo u p2 p1 M2 M1 Y2 Y1 := ⟨h.m2, h.m1, fun k h2 h1 => h.d k h1 h2, h.l2, h.l1⟩
theorem Tw.step (h : Tw lo u p1 p2 M1 M2 Y1 Y2) {r : Value} {e : Ending} (hp : MPost u p1 M' Y1 r e u') :
    ∃ Y', Tw lo u' p1 p2 M' M2 Y' Y2 ∧ Fx Y1 u u' ∧ ∀ k, Y' k → Y1 k ∨ u.heap.size ≤ k := by
  have hlo := h.l1 p1 h.m1.zp
  refine ⟨_, ⟨hp.2.1.there, h.m2.keep hp.2.2 (fun k h2 h1 => h.d k h1 h2), fun k hk h2 => ?_, fun k hk => ⟨?_, hk.2⟩, fun k hk => ⟨(h.l2 k hk).1, Nat.lt_of_lt_of_le (h.l2 k hk).2 hp.2.2.size⟩⟩, hp.2.2, fun k hk => hk.1⟩
  · rcases hk.1 with q | q
    · exact h.d k q h2
    · have := (h.l2 k h2).2
      omega
  · rcases hk.1 with q | q
    · exact (h.l1 k q).1
    · omega
theorem Tw.ext {w : World} (h : Tw w.heap.size u p1 p2 M1 M2 Y1 Y2) (hE : Ext [] w u) (x : Fx Y1 u u') : Ext [] w u' := Fx.on hE x (fun k hk => (h.l1 k hk).1)
end

theorem Scr.keep0 {w w' : World} {a : Option Addr} {S : List Oq} (h : Scr w a S) (x : Ext [] w w') : Scr w' a S := by
  refine ⟨?_, h.len⟩
  rcases h.at_ with e | ⟨b, o, ha, hs⟩
  · exact .inl e
  · refine .inr ⟨b, o, ha, fun i hi => ?_⟩
    obtain ⟨pa, pn, pc, ra, rn, rc, hop, c0, c1, c2, c3, c4, c5, c6, c7⟩ := hs i hi
    exact ⟨pa, pn, pc, ra, rn, rc, hop.keep0 x, x.cell c0 (by simp), x.cell c1 (by simp), x.cell c2 (by simp), x.cell c3 (by simp), x.cell c4 (by simp), x.cell c5 (by simp), x.cell c6 (by simp), x.cell c7 (by simp)⟩

/-- Bytes in memory. -/
def Bz (w : World) (a : Option Addr) (L : List Int) : Prop := Co.Vs w a (L.map (Value.int .u8))
theorem Bz.keep0 {w w' : World} {a : Option Addr} {L : List Int} (h : Bz w a L) (e : Ext [] w w') : Bz w' a L := Co.Vs.keep0 h (co_ext e)
theorem Bz.cell {w : World} {a : Option Addr} {xs : List Int} (h : Bz w a xs) {j : Nat} (hj : j < xs.length) : ∃ b o, a = some ⟨b, o, none⟩ ∧ w.cell? ⟨b, o + j, none⟩ = some (.int .u8 (xs.getD j 0)) := by
  rcases h with h | ⟨b, o, h, hc⟩
  · have : xs = [] := by simpa using h
    subst this
    simp at hj
  · refine ⟨b, o, h, ?_⟩
    rw [hc j (by simpa using hj)]; simp [hj]

theorem vos_void {M : Ms} (h : Co.Void M.G) (L : List Ob) : vosM M L = [] := by
  unfold vosM
  rw [List.filterMap_eq_nil_iff]
  intro x _
  unfold voM
  rw [void_fnd h]

set_option maxRecDepth 100000 in
set_option maxHeartbeats 4000000 in
theorem cutsWalk (x pc : Int) (a : Option Addr) (n c : Nat) (S : List Oq) (ra : Option Addr) (rn rc : Nat) (R : List Int) (ba : Option Addr) (bn bc : Nat) (B : List Int) (w : World) (hG : Gl w) (hS : Scr w a S) (hn : S.length = n)
    (hR : Co.Is w ra R) (hrn : R.length = rn) (hrb : rn ≤ 17592186043904) (hi : ∀ y ∈ R, I64 y) (hB : Bz w ba B) (hbn : B.length = bn) (hbb : bn ≤ 140737488351232) (hBi : ∀ y ∈ B, 0 ≤ y ∧ y < 256) :
    Calls Tryz.prog 5 #[.int .i64 x, .int .i64 pc, .slice a n c, .slice ra rn rc, .slice ba bn bc] w (SayPost w (.bool true)) := by
  have K := grown_any w hG x pc a n c S hS hn
  have K2 := fun u (hu : Ext [] w u) => grown_any u (hG.keep0 hu) x pc a n c S (hS.keep0 hu) hn
  have hSV : ∀ q ∈ S, 0 ≤ q.V ∧ q.V < 18446744073709551616 := fun q hq => by
    obtain ⟨k, hk, rfl⟩ := List.mem_iff_getElem.1 hq
    rcases hS.at_ with e | ⟨b, o, _, hsc⟩
    · rw [e] at hk; simp at hk
    · obtain ⟨_, _, _, _, _, _, hop, _⟩ := hsc k hk
      exact hop.hV
  have hJ : Jd (grownM x pc S).1 [] := grow_jd S hSV (jd_new (by unfold pgF; split <;> omega) pc)
  have hgi := grown_gi x pc S hSV hS.len
  have hsl := hS.len
  have HG := hid hG
  have HR := hid hR
  have Hi := hid hi
  have HB := hid hB
  have HBi := hid hBi
  clear hS hn hSV hG hR hi hB hBi
  generalize grownM x pc S = Rr at *
  obtain ⟨M, L⟩ := Rr
  simp only at hJ hgi
  have hk := hgi.km
  have hok := hgi.ok
  have hln := hgi.ln
  simp only at hk hok hln
  generalize S.length = sl at *
  obtain ⟨l0, hl0, hlv0⟩ := nodes_live M (adrsF L R)
  have hC1 := collect_ok hk.iv hl0 hlv0
  obtain ⟨M1, e1, hM1⟩ : ∃ M1 e1, collectM M (liveM M (adrsF L R)) = (M1, e1) := ⟨_, _, rfl⟩
  rw [hM1] at hC1
  obtain ⟨rfl, hph1⟩ := hC1
  have hk1 : Mk M1 10 := by have := (Mk.collect (b := 10) hk (liveM M (adrsF L R))).1; rw [hM1] at this; exact this
  have hj1 : Jd M1 [] := by have := hJ.collect (liveM M (adrsF L R)); rw [hM1] at this; exact this
  obtain ⟨hb0, hc0, hcut, hph2, hvoid⟩ := cuts_same hk1.iv hph1 B
  obtain ⟨MB, hMB⟩ : ∃ MB, begin9 M1 [] = (MB, 0) := ⟨(begin9 M1 []).1, by rw [← hb0]⟩
  obtain ⟨MC, hMC⟩ : ∃ MC, collectM M1 [] = (MC, 0) := ⟨(collectM M1 []).1, by rw [← hc0]⟩
  rw [hMB, hMC] at hcut
  rw [hMC] at hph2 hvoid
  simp only at hcut hph2 hvoid
  have hkB : Mk MB 10 := by have := (Mk.begin9 hk1 []).1; rw [hMB] at this; exact this
  have hkC : Mk MC 8 := by have := (Mk.collect (b := 8) hk1 []).1; rw [hMC] at this; exact this
  have hjC : Jd MC [] := by have := hj1.collect []; rw [hMC] at this; exact this
  have hkW : ∀ k, Co.Iv (worksM MB (B.take k)).G ∧ (worksM MB (B.take k)).G.cy < 900000000000000000 ∧ AdI (worksM MB (B.take k)) := fun k => by
    obtain ⟨s, hs⟩ := worksM_sum (B.take k) MB
    rw [hs]
    have h9 := Mk.work (b := 9) hkB s
    exact ⟨h9.iv, by have := h9.cy; omega, h9.ad⟩
  have hAi := adrsF_i64 hok Hi.out
  have hLi : ∀ y ∈ liveM M (adrsF L R), I64 y := fun y hy => hAi y (List.mem_filter.1 hy).1
  have hAl : (adrsF L R).length = rn := by unfold adrsF; rw [List.length_map]; exact hrn
  have hLl := liveM_len M (adrsF L R)
  rw [hAl] at hLl
  have HJ := hid hJ
  have HK := hid hk
  have HK1 := hid hk1
  have HJ1 := hid hj1
  have HM1 := hid hM1
  have HMB := hid hMB
  have HMC := hid hMC
  have HCut := hid hcut
  have HVoid := hid hvoid
  have HKC := hid hkC
  have HJC := hid hjC
  have HKB := hid hkB
  have HKW := hid hkW
  have HLi := hid hLi
  have HAi := hid hAi
  have HAl := hid hAl
  have HLl := hid hLl
  clear hgi hJ hk hok hl0 hlv0 hM1 hph1 hk1 hj1 hb0 hc0 hcut hMB hMC hph2 hvoid hkB hkC hjC hkW hAi hLi hAl hLl
  go_enter Tryz.func5, Tryz.ntmps5
  go_wp2_with fail
  refine K.mono ?_
  clear K
  rintro e w1 ⟨p1, gv, rfl, ⟨Z1, hm1, hz1, hgv, hE1⟩, _⟩
  simp only at hm1 hgv
  obtain ⟨va, vc, rfl, hVI, _⟩ := own_is hgv
  have K := K2 w1 hE1
  have HM1w := hid hm1.there
  have HZ1 := hid hz1
  have HVI := hid hVI
  have HE1 := hid hE1
  clear hm1 hz1 hgv hE1 hVI K2
  go_wp2_with fail
  refine K.mono ?_
  clear K
  rintro e w2 ⟨p2, gv2, rfl, ⟨Z2, hm2, hz2, hgv2, hE2⟩, _⟩
  simp only at hm2 hgv2
  obtain ⟨va2, vc2, rfl, _, _⟩ := own_is hgv2
  have hT : Tw w.heap.size w2 p1 p2 M M (fun k => Z1 k ∧ k < w1.heap.size) (fun k => Z2 k ∧ k < w2.heap.size) :=
    ⟨HM1w.out.keep0 hE2, hm2.there, fun k h1 h2 => by have := (hz2 k h2.1).1; omega, fun k hk => ⟨(HZ1.out k hk.1).1, Nat.lt_of_lt_of_le hk.2 hE2.size⟩, fun k hk => ⟨Nat.le_trans HE1.out.size (hz2 k hk.1).1, hk.2⟩⟩
  have HVI2 := hid (HVI.out.keep0 (co_ext hE2))
  have HT := hid hT
  have HE2 := hid (HE1.out.trans hE2)
  clear hm2 hz2 hgv2 hE2 hT HM1w HZ1 HVI HE1
  generalize (fun k => Z1 k ∧ k < w1.heap.size) = Y1 at *
  generalize (fun k => Z2 k ∧ k < w2.heap.size) = Y2 at *
  go_wp2_with fail
  refine (mawake_any w2 (HG.out.keep0 HE2.out)).mono ?_
  rintro e w3 ⟨rfl, hE3⟩
  have K := addresses_any w3 va L.length vc L (HVI2.out.keep0 (co_ext hE3)) rfl (by omega) ra rn rc R (HR.out.keep0 (co_ext (HE2.out.trans hE3))) hrn (by omega)
  have HT3 := hid (HT.out.keep0 hE3)
  have HE3 := hid (HE2.out.trans hE3)
  clear hE3 HT HE2 HVI2
  go_wp2_with fail
  refine K.mono ?_
  clear K
  rintro e w4 ⟨av, rfl, ho4, hE4⟩
  obtain ⟨aa, ac, rfl, hA4, _⟩ := own_is (l := adrsF L R) ho4
  rw [HAl.out]
  have hE4 := ext_co hE4
  have K := mlive_any ((HT3.out.keep0 hE4).m1) HK.out HJ.out aa rn ac (adrsF L R) hA4 HAl.out (by omega) HAi.out
  have HT4 := hid (HT3.out.keep0 hE4)
  have HE4 := hid (HE3.out.trans hE4)
  clear ho4 hA4 hE4 HT3 HE3
  go_wp2_with fail
  refine K.mono ?_
  clear K
  rintro e w5 ⟨lv, rfl, ho5, hE5⟩
  obtain ⟨la, lc, rfl, hL5, hlb5⟩ := own_is (l := liveM M (adrsF L R)) ho5
  have hE5 := ext_co hE5
  have K := mcollect_any ((HT4.out.keep0 hE5).m1) (b := 11) HK.out la (liveM M (adrsF L R)).length lc (liveM M (adrsF L R)) hL5 rfl (by have := HLl.out; omega) HLi.out
  rw [HM1.out] at K
  have HT5 := hid (HT4.out.keep0 hE5)
  have HE5 := hid (HE4.out.trans hE5)
  have HNot : Hid (∀ ad, la = some ad → ¬ Y1 ad.block ∧ ¬ Y2 ad.block) := fun ad e => by
    have h1 := (hlb5 ad e).1
    exact ⟨fun q => by have := (HT4.out.l1 _ q).2; omega, fun q => by have := (HT4.out.l2 _ q).2; omega⟩
  have HL5 := hid hL5
  clear ho5 hL5 hlb5 hE5 HT4 HE4
  go_wp2_with fail
  refine K.mono ?_
  clear K
  rintro e w6 hp6
  have he := hp6.1
  subst he
  obtain ⟨Y3, hT6, hx6, hY3⟩ := HT5.out.step hp6
  have K := mcollect_any hT6.m2 (b := 11) HK.out la (liveM M (adrsF L R)).length lc (liveM M (adrsF L R)) (isF HL5.out hx6 (fun ad e => (HNot.out ad e).1)) rfl (by have := HLl.out; omega) HLi.out
  rw [HM1.out] at K
  have HE6 := hid (HT5.out.ext HE5.out hx6)
  have HT6 := hid hT6
  clear hp6 hT6 hx6 hY3 HT5 HE5 HL5 HNot
  go_wp2_with fail
  refine K.mono ?_
  clear K
  rintro e w7 hp7
  have he := hp7.1
  subst he
  obtain ⟨Y4, hT7, hx7, _⟩ := HT6.out.swap.step hp7
  have HE7 := hid (HT6.out.swap.ext HE6.out hx7)
  have hT7 := hT7.swap
  have K := mbegin_any hT7.m1 HK1.out none 0 0 [] (.inl rfl) rfl (by omega) (by simp)
  rw [HMB.out] at K
  have HT7 := hid hT7
  clear hp7 hT7 hx7 HT6 HE6
  go_wp2_with fail
  refine K.mono ?_
  clear K
  rintro e w8 hp8
  have he := hp8.1
  subst he
  obtain ⟨Y5, hT8, hx8, _⟩ := HT7.out.step hp8
  have HE8 := hid (HT7.out.ext HE7.out hx8)
  have HT8 := hid hT8
  clear hp8 hT8 hx8 HT7 HE7
  go_wp2_with fail
  go_loopw [16] (fun q wr => ∃ (k : Nat) (Y : Nat → Prop), q = .int .i64 k ∧ k ≤ bn ∧ Hid (Tw w.heap.size wr p1 p2 (worksM MB (B.take k)) M1 Y Y4 ∧ Ext [] w wr)) (fun q _ => (bn - (intOf q)).toNat)
  case atStart => exact ⟨0, Y5, rfl, Nat.zero_le _, HT8.out, HE8.out⟩
  case round =>
    obtain ⟨k, Y, rfl, hk, hTE⟩ := hrel
    by_cases hlt : k < bn
    · have hkl : k < B.length := by omega
      obtain ⟨b', o', rfl, hcell⟩ := (HB.out.keep0 hTE.out.2).cell hkl
      have hbi := HBi.out (B.getD k 0) (by rw [show B.getD k 0 = B[k] by simp [List.getD, hkl]]; exact List.getElem_mem hkl)
      obtain ⟨q1, q2, q3⟩ := HKW.out k
      have K := mwork_any hTE.out.1.m1 q1 q2 q3 (B.getD k 0) (by omega)
      rw [← worksM_take MB B hkl] at K
      have hw : IntKind.i64.wrap (B.getD k 0) = B.getD k 0 := by rw [IntKind.wrap_i64]; omega
      clear q1 q2 q3 hkl
      obtain ⟨Mk1, hMk1⟩ : ∃ Mk1, worksM MB (B.take (k + 1)) = Mk1 := ⟨_, rfl⟩
      rw [hMk1] at K
      have HMk1 := hid hMk1
      clear hMk1
      generalize worksM MB (B.take k) = Mk0 at *
      generalize B.getD k 0 = y at *
      generalize (workL Mk0 y.toNat : Int) = lf at *
      go_wp2_with fail
      refine K.mono ?_
      clear K
      rintro e w9 hp9
      have he := hp9.1
      subst he
      obtain ⟨Y6, hT9, hx9, _⟩ := hTE.out.1.step hp9
      have HE9 := hid (hTE.out.1.ext hTE.out.2 hx9)
      have HT9 := hid hT9
      clear hp9 hT9 hx9 hcell hbi hw hTE
      go_wp2_with fail
      go_roundw
      case rel => exact ⟨k + 1, Y6, by go_num, by omega, by rw [HMk1.out]; exact HT9.out, HE9.out⟩
      case measure => simp [intOf]; omega
    · obtain rfl : k = bn := by omega
      have hT10 := hTE.out.1
      have hE10 := hTE.out.2
      obtain ⟨q1, q2, q3⟩ := HKW.out k
      rw [List.take_of_length_le (by omega)] at hT10 q1 q2 q3
      obtain ⟨MW, hMW⟩ : ∃ MW, worksM MB B = MW := ⟨_, rfl⟩
      have hcut := HCut.out
      rw [hMW] at hT10 q1 q2 q3 hcut
      have K := mcollect_any hT10.m2 (b := 9) HK1.out none 0 0 [] (.inl rfl) rfl (by omega) (by simp)
      rw [HMC.out] at K
      have HQ := hid (And.intro q1 (And.intro q2 q3))
      have HT10 := hid hT10
      have HE10 := hid hE10
      have HCut2 := hid hcut
      clear hT10 hE10 q1 q2 q3 hcut hMW hTE HKW HCut
      go_wp2_with fail
      refine K.mono ?_
      clear K
      rintro e w11 hp11
      have he := hp11.1
      subst he
      obtain ⟨Y7, hT11, hx11, _⟩ := HT10.out.swap.step hp11
      have HE11 := hid (HT10.out.swap.ext HE10.out hx11)
      have hT11 := hT11.swap
      have K := mwork_any hT11.m1 HQ.out.1 HQ.out.2.1 HQ.out.2.2 100000000 (by omega)
      rw [show (100000000 : Int).toNat = 100000000 from rfl, HCut2.out] at K
      obtain ⟨lf, hlf⟩ : ∃ lf : Int, (workL MW 100000000 : Int) = lf := ⟨_, rfl⟩
      have hlf0 : 0 ≤ lf := by rw [← hlf]; omega
      have dlf : decide (lf < 0) = false := by simpa using hlf0
      rw [hlf] at K
      have HT11 := hid hT11
      clear hp11 hT11 hx11 HT10 HE10 hlf hlf0
      go_wp2_with fail
      refine K.mono ?_
      clear K
      rintro e w12 hp12
      have he := hp12.1
      subst he
      obtain ⟨Y8, hT12, hx12, _⟩ := HT11.out.step hp12
      have HE12 := hid (HT11.out.ext HE11.out hx12)
      have K := mview_any hT12.m1 HKC.out HJC.out none 0 0 [] (.inl rfl) rfl (by omega) (by simp) (l := []) rfl
      rw [vos_void HVoid.out] at K
      have HT12 := hid hT12
      clear hp12 hT12 hx12 HT11 HE11
      go_wp2_with fail
      refine K.mono ?_
      clear K
      rintro e w13 ⟨v, fa, fc, rv, rvc, rfl, ⟨A, hA, hvA, _⟩, hf13, hr13, hE13⟩
      obtain rfl : A = [] := by simpa using hA
      obtain ⟨va1, vc1, rfl, _⟩ := own_slice hvA
      have K := fun u (hu : Ext [] w13 u) => mview_any (HT12.out.keep0 (hE13.trans hu)).m2 HKC.out HJC.out none 0 0 [] (.inl rfl) rfl (by omega) (by simp) (l := []) rfl
      rw [vos_void HVoid.out] at K
      have HF13 := hid hf13
      have HR13 := hid hr13
      have HE13 := hid (HE12.out.trans hE13)
      have HK13 := hid K
      clear hvA hf13 hr13 hE13 HT12 HE12 hA K
      generalize (MC.G.ph : Int) = ph at *
      generalize (MC.G.cy : Int) = cy at *
      have hfl : (fr MC.H.R).length ≤ 1024 := by have := fr_len MC.H.R; have := HJC.out.hv.inv.len; have := HJC.out.hv.P1; omega
      generalize fr MC.H.R = F at *
      simp only [vroots, List.filter_nil, List.length_nil] at HR13 HK13 ⊢
      go_wp2_with fail
      refine (HK13.out _ (Ext.alloc [] _ _)).mono ?_
      rintro e w14 ⟨v2, fa2, fc2, rv2, rvc2, rfl, ⟨A2, hA2, hvA2, _⟩, hf14, hr14, hE14⟩
      obtain rfl : A2 = [] := by simpa using hA2
      obtain ⟨vb1, vd1, rfl, _⟩ := own_slice hvA2
      simp only [List.length_nil] at hr14 ⊢
      obtain ⟨W15, hW15⟩ : ∃ W15, w14.alloc (.cells #[.slice vb1 0 vd1, .slice fa2 F.length fc2, .slice rv2 0 rvc2, .int .i64 ph, .int .i64 cy] 40) = W15 := ⟨_, rfl⟩
      have hE15 : Ext [] w14 W15 := by rw [← hW15]; exact Ext.alloc [] _ _
      have hEa := Ext.alloc [] w13 (.cells #[.slice va1 0 vc1, .slice fa F.length fc, .slice rv 0 rvc, .int .i64 ph, .int .i64 cy] 40)
      have hb1 := (hE14.trans hE15).keep (heap_alloc_new w13 (.cells #[.slice va1 0 vc1, .slice fa F.length fc, .slice rv 0 rvc, .int .i64 ph, .int .i64 cy] 40)) (by simp)
      have hb2 : W15.heap[w14.heap.size]? = some (.cells #[.slice vb1 0 vd1, .slice fa2 F.length fc2, .slice rv2 0 rvc2, .int .i64 ph, .int .i64 cy] 40 (0, 0)) := by rw [← hW15]; exact heap_alloc_new _ _
      have hEx := (hEa.trans hE14).trans hE15
      have KS := sameView_t va1 vb1 fa fa2 rv rv2 vc1 vd1 fc fc2 rvc rvc2 F.length 0 ph cy F [] W15 rfl rfl (by omega) (by omega) (own_base (own_keep0 HF13.out hEx) (Nat.zero_le _)) (own_base (own_keep0 hf14 hE15) (Nat.zero_le _)) (.inl rfl) (.inl rfl)
      obtain ⟨z1, hz1⟩ : ∃ z1, w13.heap.size = z1 := ⟨_, rfl⟩
      obtain ⟨z2, hz2⟩ : ∃ z2, w14.heap.size = z2 := ⟨_, rfl⟩
      rw [hz1] at hb1
      rw [hz2] at hb2
      have a0 : W15.cell? ⟨z1, 0, none⟩ = some (.slice va1 0 vc1) := by rw [cell_of_row _ _ _ _ _ _ hb1]; rfl
      have a1 : W15.cell? ⟨z1, 1, none⟩ = some (.slice fa F.length fc) := by rw [cell_of_row _ _ _ _ _ _ hb1]; rfl
      have a2 : W15.cell? ⟨z1, 2, none⟩ = some (.slice rv 0 rvc) := by rw [cell_of_row _ _ _ _ _ _ hb1]; rfl
      have a3 : W15.cell? ⟨z1, 3, none⟩ = some (.int .i64 ph) := by rw [cell_of_row _ _ _ _ _ _ hb1]; rfl
      have a4 : W15.cell? ⟨z1, 4, none⟩ = some (.int .i64 cy) := by rw [cell_of_row _ _ _ _ _ _ hb1]; rfl
      have b0 : W15.cell? ⟨z2, 0, none⟩ = some (.slice vb1 0 vd1) := by rw [cell_of_row _ _ _ _ _ _ hb2]; rfl
      have b1 : W15.cell? ⟨z2, 1, none⟩ = some (.slice fa2 F.length fc2) := by rw [cell_of_row _ _ _ _ _ _ hb2]; rfl
      have b2 : W15.cell? ⟨z2, 2, none⟩ = some (.slice rv2 0 rvc2) := by rw [cell_of_row _ _ _ _ _ _ hb2]; rfl
      have b3 : W15.cell? ⟨z2, 3, none⟩ = some (.int .i64 ph) := by rw [cell_of_row _ _ _ _ _ _ hb2]; rfl
      have b4 : W15.cell? ⟨z2, 4, none⟩ = some (.int .i64 cy) := by rw [cell_of_row _ _ _ _ _ _ hb2]; rfl
      have HW15 := hid hW15
      have HZ1 := hid hz1
      have HZ2 := hid hz2
      have HE15 := hid (HE13.out.trans hEx)
      have KS := hid KS
      clear hA2 hvA2 hf14 hr14 hE14 hE15 hEa hb1 hb2 hEx hW15 hz1 hz2 HF13 HR13 HE13 HK13
      generalize F.length = f at *
      go_upto_region 16 with fail
      rw [HW15.out]
      try simp only [HZ1.out, HZ2.out]
      have KS := KS.out
      go_wp2_with fail
      refine KS.mono ?_
      rintro e w16 ⟨rfl, hE16⟩
      have HE16 := hid (HE15.out.trans hE16)
      clear hE16 KS a0 a1 a2 a3 a4 b0 b1 b2 b3 b4
      go_wp2_with fail
      go_ret
      exact ⟨rfl, HE16.out⟩
end Go.Proofs.YtjbbomokgpoilaaGreatDoor
