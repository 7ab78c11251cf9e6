/-
  The statements' own 'step': a call on the program's pages and on the reference's; no statement is proved here.
-/
import Derived.Test.YtkdgekdacinlhaaRefD
namespace Go.Proofs.Ytkdgekdacinlhaa
open Go.RowKit

/-- Both stand alike. -/
def Pl (P : Nat) (w0 : World) (p q : Nat) (vq : Value) (w : World) : Prop :=
  ∃ v L O, Rs w p v L ∧ Rf w q vq O ∧ Inv P L ∧ Of P L O ∧ (∀ g, v.ownBlock = some g → w0.heap.size ≤ g) ∧ Ext [] w0 w
def StPost (P : Nat) (w0 : World) (p q : Nat) (vq : Value) (e : Ending) (w' : World) : Prop := e = .returned (.bool true) ∧ Pl P w0 p q vq w'

theorem pl_keep {P : Nat} {w0 w w' : World} {p q : Nat} {v vq : Value} {L : List Rn} {O : List Int} (hR : Rs w p v L) (hF : Rf w q vq O) (hI : Inv P L) (hO : Of P L O) (hv : ∀ g, v.ownBlock = some g → w0.heap.size ≤ g) (hE : Ext [] w0 w) (x : Ext [] w w') : Pl P w0 p q vq w' :=
  ⟨v, L, O, hR.keep0 x, hF.keep0 x, hI, hO, hv, hE.trans x⟩
theorem pl_turn {P : Nat} {w0 w w1 w2 : World} {p q : Nat} {v v1 vq : Value} {L' : List Rn} {O O' : List Int} (hp : w0.heap.size ≤ p) (hvq : ∀ g, vq.ownBlock = some g → w0.heap.size ≤ g) (hv : ∀ g, v.ownBlock = some g → w0.heap.size ≤ g) (hE : Ext [] w0 w)
    (hR1 : Rs w1 p v1 L') (hON : OldNew w v v1) (hX : Ext (p :: v.ownBlock.toList) w w1) (hF1 : Rf w1 q vq O) (hI' : Inv P L') (hF2 : Rf w2 q vq O') (hO2 : Of P L' O') (hX2 : Ext vq.ownBlock.toList w1 w2) : Pl P w0 p q vq w2 := by
  refine ⟨v1, L', O', rs_keep_rf hR1 hF1 hX2, hF2, hI', hO2, fun g hg => ?_, ?_⟩
  · rcases hON with e | h
    · exact hv g (by rw [← e]; exact hg)
    · have := h g hg; have := hE.size; omega
  · refine (hE.on hX (fun b hb => ?_)).on hX2 (fun b hb => hvq b (by simpa using hb))
    simp only [List.mem_cons, Option.mem_toList] at hb
    rcases hb with rfl | hb
    · exact hp
    · exact hv b hb

set_option maxRecDepth 100000 in
set_option maxHeartbeats 8000000 in
theorem step_any {P : Nat} {w0 w : World} {p q : Nat} {vq : Value} (K N : Int) (h : Pl P w0 p q vq w) (hp : w0.heap.size ≤ p) (hvq : ∀ g, vq.ownBlock = some g → w0.heap.size ≤ g) (hN : N ≤ 9223372036854775807) :
    Calls Try.prog 12 #[.pointer (some ⟨p, 0, none⟩), .pointer (some ⟨q, 0, none⟩), .agg #[.int .i64 K, .int .i64 N]] w (StPost P w0 p q vq) := by
  obtain ⟨v, L, O, hR, hF, hI, hO, hv, hE⟩ := h
  have hEb := Ext.alloc [] w (.cells #[.int .i64 K, .int .i64 N] 33)
  have hRb := hR.keep0 hEb
  have hFb := hF.keep0 hEb
  have hb : (w.alloc (.cells #[.int .i64 K, .int .i64 N] 33)).heap[w.heap.size]? = some (.cells #[.int .i64 K, .int .i64 N] 33 (0, 0)) := heap_alloc_new _ _
  have b0 : (w.alloc (.cells #[.int .i64 K, .int .i64 N] 33)).cell? ⟨w.heap.size, 0, none⟩ = some (.int .i64 K) := by rw [cell_of_row _ _ _ _ _ _ hb]; rfl
  have b1 : (w.alloc (.cells #[.int .i64 K, .int .i64 N] 33)).cell? ⟨w.heap.size, 1, none⟩ = some (.int .i64 N) := by rw [cell_of_row _ _ _ _ _ _ hb]; rfl
  have hLl : L.length ≤ 1024 := Nat.le_trans hI.len hI.le
  have hS : w.heap.size ∉ p :: v.ownBlock.toList := by
    simp only [List.mem_cons, Option.mem_toList, not_or]
    exact ⟨by have := hR.lt; omega, fun h => by have := hR.row.lt _ h; omega⟩
  have HB := hid hb
  have HE := hid (hE.trans hEb)
  have HS := hid hS
  have HP := hid hp
  have HVQ := hid hvq
  have HV := hid hv
  have HI := hid hI
  have HO := hid hO
  have HR := hid hRb
  have HF := hid hFb
  clear hb hE hEb hS hp hvq hv hR hF
  by_cases k1 : K = 1
  · subst k1
    have K1 := free_any p N v L _ HR.out hI
    have HK2 : Hid (∀ w1, Rf w1 q vq O → Calls Try.prog 22 #[.pointer (some ⟨q, 0, none⟩), .int .i64 N] w1 (RePost w1 q vq P (frR L N))) := fun w1 h => rfr_any q N vq L O w1 h hI hO
    have HI2 := hid (inv_fr hI N)
    clear hRb hFb hI hO
    generalize frR L N = z at *
    obtain ⟨L', x1, x2⟩ := z
    simp only at K1 HI2
    go_enter Try.func12, Try.ntmps12
    go_upto_region 3 with fail
    go_wp2_with (first
      | (go_at_call 20; refine K1.mono ?_; rintro e w1 ⟨v1, rfl, hR1, hON, hX⟩; have c1 := hX.cell b1 HS.out; have hF1 := rf_keep_rs HR.out HF.out hX; have K2 := HK2.out w1 hF1; have HA := hid (And.intro hR1 (And.intro hON (And.intro hX hF1))); clear hR1 hON hX hF1 K1)
      | (go_at_call 22; refine K2.mono ?_; rintro e w2 ⟨O2, rfl, hF2, hO2, hX2⟩; have HA2 := hid (And.intro hF2 (And.intro hO2 hX2)); clear hF2 hO2 hX2 K2))
    go_ret
    exact ⟨rfl, pl_turn HP.out HVQ.out HV.out HE.out HA.out.1 HA.out.2.1 HA.out.2.2.1 HA.out.2.2.2 HI2.out HA2.out.1 HA2.out.2.1 HA2.out.2.2⟩
  · have d1 : (K == 1) = false := by simp [k1]
    by_cases k2 : K = 2
    · subst k2
      have K1 := owner_any p v L N _ HR.out (by omega)
      have HK2 : Hid (∀ w1, Rf w1 q vq O → Calls Try.prog 23 #[.pointer (some ⟨q, 0, none⟩), .int .i64 N] w1 (OwnPost w1 L N)) := fun w1 h => rowner_any q vq L O N w1 h hI hO hN
      unfold OwnPost Rn.val at K1 HK2
      clear hRb hFb hI hO k1
      have hq := fun W => eql_run (ownR L N) (ownR L N) W
      rw [show decide (ownR L N = ownR L N) = true by simp] at hq
      generalize ownR L N = x at *
      generalize ownE L N = x2 at *
      go_enter Try.func12, Try.ntmps12
      go_upto_region 7 with fail
      go_wp2_with (first
        | (go_at_call 17; refine K1.mono ?_; rintro e w1 ⟨rfl, hX⟩; have hXa := hX.trans (Ext.alloc [] w1 (.cells #[.int .i64 x.s, .int .i64 x.n, .bool x.u] 42)); have c1 := hXa.cell b1 (by simp); have K2 := HK2.out _ (HF.out.keep0 hXa); have o1 : One (w1.alloc (.cells #[.int .i64 x.s, .int .i64 x.n, .bool x.u] 42)) w1.heap.size x := heap_alloc_new _ _; have HA := hid (And.intro hXa o1); clear hX hXa o1 K1)
        | (go_at_call 23; refine K2.mono ?_; rintro e w2 ⟨rfl, hX2⟩; have hXb := hX2.trans (Ext.alloc [] w2 (.cells #[.int .i64 x.s, .int .i64 x.n, .bool x.u] 42)); have o2 : One (w2.alloc (.cells #[.int .i64 x.s, .int .i64 x.n, .bool x.u] 42)) w1.heap.size x := hXb.keep HA.out.2 (by simp); have e0 : (w2.alloc (.cells #[.int .i64 x.s, .int .i64 x.n, .bool x.u] 42)).cell? ⟨w1.heap.size, 0, none⟩ = some (.int .i64 x.s) := by (rw [cell_of_row _ _ _ _ _ _ o2]; rfl)
           have e1 : (w2.alloc (.cells #[.int .i64 x.s, .int .i64 x.n, .bool x.u] 42)).cell? ⟨w1.heap.size, 1, none⟩ = some (.int .i64 x.n) := by (rw [cell_of_row _ _ _ _ _ _ o2]; rfl)
           have e2 : (w2.alloc (.cells #[.int .i64 x.s, .int .i64 x.n, .bool x.u] 42)).cell? ⟨w1.heap.size, 2, none⟩ = some (.bool x.u) := by (rw [cell_of_row _ _ _ _ _ _ o2]; rfl)
           have HA2 := hid (HA.out.1.trans hXb)
           clear hX2 hXb o2 K2))
      go_ret
      exact ⟨rfl, pl_keep HR.out HF.out HI.out HO.out HV.out HE.out HA2.out⟩
    · have d2 : (K == 2) = false := by simp [k2]
      by_cases k3 : K = 3
      · subst k3
        have K1 := largest_of _ v L _ (nowOf_any HR.out) HR.out.row (by omega)
        have HK2 : Hid (∀ w1, Rf w1 q vq O → Calls Try.prog 24 #[.pointer (some ⟨q, 0, none⟩)] w1 fun e w' => e = .returned (.int .i64 (big L)) ∧ w' = w1) := fun w1 h => rlargest_any q vq L O w1 h hI hO
        clear hRb hFb hI hO k1 k2
        generalize hbg : big L = bg at *
        clear hbg
        go_enter Try.func12, Try.ntmps12
        go_upto_region 11 with fail
        go_wp2_with (first
          | (go_at_call 18; refine K1.mono ?_; rintro e w1 ⟨rfl, hX⟩; have K2 := HK2.out w1 (HF.out.keep0 hX); have HA := hid hX; clear hX K1)
          | (go_at_call 24; refine K2.mono ?_; rintro e w2 ⟨rfl, rfl⟩; clear K2))
        go_ret
        exact ⟨rfl, pl_keep HR.out HF.out HI.out HO.out HV.out HE.out HA.out⟩
      · have d3 : (K == 3) = false := by simp [k3]
        have K1 := alloc_any p N v L _ HR.out hI
        have HK2 : Hid (∀ w1, Rf w1 q vq O → Calls Try.prog 25 #[.pointer (some ⟨q, 0, none⟩), .int .i64 N] w1 (RePost w1 q vq P (alR L N))) := fun w1 h => ralloc_any q N vq L O w1 h hI hO
        have HI2 := hid (inv_al hI N)
        clear hRb hFb hI hO k1 k2 k3
        generalize alR L N = z at *
        obtain ⟨L', x1, x2⟩ := z
        simp only at K1 HI2
        go_enter Try.func12, Try.ntmps12
        go_upto_region 12 with fail
        go_wp2_with (first
          | (go_at_call 19; refine K1.mono ?_; rintro e w1 ⟨v1, rfl, hR1, hON, hX⟩; have c1 := hX.cell b1 HS.out; have hF1 := rf_keep_rs HR.out HF.out hX; have K2 := HK2.out w1 hF1; have HA := hid (And.intro hR1 (And.intro hON (And.intro hX hF1))); clear hR1 hON hX hF1 K1)
          | (go_at_call 25; refine K2.mono ?_; rintro e w2 ⟨O2, rfl, hF2, hO2, hX2⟩; have HA2 := hid (And.intro hF2 (And.intro hO2 hX2)); clear hF2 hO2 hX2 K2))
        go_ret
        exact ⟨rfl, pl_turn HP.out HVQ.out HV.out HE.out HA.out.1 HA.out.2.1 HA.out.2.2.1 HA.out.2.2.2 HI2.out HA2.out.1 HA2.out.2.1 HA2.out.2.2⟩

end Go.Proofs.Ytkdgekdacinlhaa
