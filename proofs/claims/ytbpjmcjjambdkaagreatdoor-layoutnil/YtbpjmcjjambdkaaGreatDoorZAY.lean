/-
  MBeg: joined by program; no statement is proved here.
-/
import Derived.Test.YtbpjmcjjambdkaaGreatDoorZAW
/-
  Begin and Collect of a memory; no statement is proved here.
-/
namespace Go.Proofs.YtbpjmcjjambdkaaGreatDoor
open Go.RowKit

theorem begin_nil (r : Value) (w : World) : Calls Tryz.prog 30 #[.pointer none, r] w fun e w' => e = .returned (.int .i64 2) ∧ w' = w := by
  have K := mnodes_nil r w
  go_enter Tryz.func30, Tryz.ntmps30
  go_wp2_with (first | (go_at_call 59; refine met K ?_) | fail "no arm")
  go_ret
  exact ⟨rfl, rfl⟩
theorem collect_nil (r : Value) (w : World) : Calls Tryz.prog 32 #[.pointer none, r] w fun e w' => e = .returned (.int .i64 2) ∧ w' = w := by
  have K := mnodes_nil r w
  go_enter Tryz.func32, Tryz.ntmps32
  go_wp2_with (first | (go_at_call 59; refine met K ?_) | fail "no arm")
  go_ret
  exact ⟨rfl, rfl⟩
theorem work_nil (x : Int) (w : World) : Calls Tryz.prog 31 #[.pointer none, .int .i64 x] w fun e w' => e = .returned (.int .i64 0) ∧ w' = w := by
  go_enter Tryz.func31, Tryz.ntmps31
  go_wp2
  go_ret
  exact ⟨rfl, rfl⟩

section
variable {w : World} {p : Nat} {M : Ms} {Z : Nat → Prop}

/-- What was made besides is nowhere in the memory. -/
theorem apart_is {w w1 : World} {Y : Nat → Prop} {va : Option Addr} {l : List Int} (hI : Co.Is w1 va l) (hva : ∀ ad, va = some ad → w.heap.size ≤ ad.block ∧ ad.block < w1.heap.size) (hY : ∀ k, Y k → k < w.heap.size) {wk : World} (hx : Fx Y w1 wk) : Co.Is wk va l ∧ ∀ ad, va = some ad → ¬ Co.Nw Y w1 ad.block ∧ ad.block < wk.heap.size := by
  have hva' : ∀ ad, va = some ad → ¬ Y ad.block := fun ad e q => by have := hY _ q; have := (hva ad e).1; omega
  refine ⟨isF hI hx hva', fun ad e => ⟨?_, Nat.lt_of_lt_of_le (hva ad e).2 hx.size⟩⟩
  rintro (q | q)
  · exact hva' ad e q
  · have := (hva ad e).2; omega
theorem MPost.back {w w1 wk : World} {Y : Nat → Prop} {M' : Ms} {r : Value} (hE : Ext [] w w1) (hYZ : ∀ k, Y k → Z k) (hp : MPost w1 p M' Y r (.returned r) wk) : MPost w p M' Z r (.returned r) wk := by
  refine ⟨rfl, hp.2.1.mono (fun k hk => ?_), (Fx.of_ext0 hE).trans hp.2.2 (fun k hk => .inl (hYZ k hk))⟩
  rcases hk with q | q
  · exact .inl (hYZ k q)
  · exact .inr (Nat.le_trans hE.size q)

theorem mbegin_any (h : Mw w p M Z) {b : Nat} (hk : Mk M b) (ra : Option Addr) (rn rc : Nat) (R : List Int) (hR : Co.Is w ra R) (hrn : R.length = rn) (hrb : rn ≤ 17592186044415) (hi : ∀ x ∈ R, I64 x) :
    Calls Tryz.prog 30 #[.pointer (some ⟨p, 0, none⟩), .slice ra rn rc] w (MPost w p (begin9 M R).1 Z (.int .i64 (begin9 M R).2)) := by
  have KP := phase_any h
  have KN := mnodes_w h hk ra rn rc R hR hrn hrb hi
  have h' := h.there
  generalize hZ : (fun k => Z k ∧ k < w.heap.size) = Y at h'
  have hYZ : ∀ k, Y k → Z k ∧ k < w.heap.size := fun k hk => by rw [← hZ] at hk; exact hk
  unfold begin9
  by_cases hp0 : M.G.ph = 0
  · rw [if_neg (by simpa using hp0)]
    have b0 : ((M.G.ph : Int) != 0) = false := by simp [hp0]
    cases hN : nodesM M R with
    | none =>
      rw [hN] at KN
      have HF : Hid (∀ w1, Ext [] w w1 → MPost w p M Z (.int .i64 4) (.returned (.int .i64 4)) w1) := fun w1 hE => MPost.refl h hE _
      clear h hk hR hi h' hZ hYZ hN hp0
      generalize (M.G.ph : Int) = ph at *
      go_enter Tryz.func30, Tryz.ntmps30
      go_wp2_with (first | (go_at_call 62; refine met KP ?_) | (go_at_call 59; refine KN.mono ?_; clear KN; rintro e w1 ⟨hE, rfl⟩; have HF1 := hid (HF.out w1 hE); clear hE HF) | fail "no arm")
      go_ret
      exact HF1.out
    | some l =>
      rw [hN] at KN
      have hll : l.length ≤ 17592186044415 := by have := nodesM_len M R l hN; omega
      have HB : Hid (∀ w1, Ext [] w w1 → ∀ va c, Co.Is w1 va l → (∀ ad, va = some ad → w.heap.size ≤ ad.block ∧ ad.block < w1.heap.size) → Calls Tryz.prog 65 #[.pointer (some ⟨p, 0, none⟩), .slice va l.length c] w1 (MPost w1 p (beginM M l) Y (.int .i64 (beginE M l)))) := fun w1 hE va c hI hva =>
        begin_any (h'.keep0 hE) hk.iv va _ c l hI rfl (by omega) (fun ad e => ⟨fun q => by have := (hYZ _ q).2; have := (hva ad e).1; omega, (hva ad e).2⟩)
      have HFin : Hid (∀ w1 wk r, Ext [] w w1 → MPost w1 p (beginM M l) Y r (.returned r) wk → MPost w p (beginM M l) Z r (.returned r) wk) := fun w1 wk r hE hp => hp.back hE (fun k hk => (hYZ k hk).1)
      clear h hk hR hi h' hZ hYZ hN hp0
      simp only
      generalize beginM M l = M1 at *
      generalize beginE M l = er at *
      generalize (M.G.ph : Int) = ph at *
      go_enter Tryz.func30, Tryz.ntmps30
      go_wp2_with (first | (go_at_call 62; refine met KP ?_) | (go_at_call 59; refine KN.mono ?_; clear KN; rintro e w1 ⟨hE, v, rfl, ho⟩; obtain ⟨va, vc, rfl, hI, hva⟩ := own_is ho; have K2 := HB.out w1 hE va vc hI hva; have HE1 := hid hE; clear hE ho hI hva HB) | (go_at_call 65; refine K2.mono ?_; clear K2; rintro e w2 hp; have he := hp.1; subst he; have HP := hid hp; clear hp) | fail "no arm")
      go_ret
      exact HFin.out w1 w2 _ HE1.out HP.out
  · rw [if_pos hp0]
    have b0 : ((M.G.ph : Int) != 0) = true := by simp; omega
    have HF := hid (MPost.refl h (Ext.refl [] w) (.int .i64 14))
    clear h hk hR hi h' hZ hYZ hp0 KN
    generalize (M.G.ph : Int) = ph at *
    go_enter Tryz.func30, Tryz.ntmps30
    go_wp2_with (first | (go_at_call 62; refine met KP ?_) | fail "no arm")
    go_ret
    exact HF.out

theorem mcollect_any (h : Mw w p M Z) {b : Nat} (hk : Mk M (b + 1)) (ra : Option Addr) (rn rc : Nat) (R : List Int) (hR : Co.Is w ra R) (hrn : R.length = rn) (hrb : rn ≤ 17592186044415) (hi : ∀ x ∈ R, I64 x) :
    Calls Tryz.prog 32 #[.pointer (some ⟨p, 0, none⟩), .slice ra rn rc] w (MPost w p (collectM M R).1 Z (.int .i64 (collectM M R).2)) := by
  have KN := mnodes_w h hk ra rn rc R hR hrn hrb hi
  have h' := h.there
  generalize hZ : (fun k => Z k ∧ k < w.heap.size) = Y at h'
  have hYZ : ∀ k, Y k → Z k ∧ k < w.heap.size := fun k hk => by rw [← hZ] at hk; exact hk
  unfold collectM
  cases hN : nodesM M R with
  | none =>
    rw [hN] at KN
    have HF : Hid (∀ w1, Ext [] w w1 → MPost w p M Z (.int .i64 4) (.returned (.int .i64 4)) w1) := fun w1 hE => MPost.refl h hE _
    clear h hk hR hi h' hZ hYZ hN
    go_enter Tryz.func32, Tryz.ntmps32
    go_wp2_with (first | (go_at_call 59; refine KN.mono ?_; clear KN; rintro e w1 ⟨hE, rfl⟩; have HF1 := hid (HF.out w1 hE); clear hE HF) | fail "no arm")
    go_ret
    exact HF1.out
  | some l =>
    rw [hN] at KN
    have hll : l.length ≤ 17592186044415 := by have := nodesM_len M R l hN; omega
    have HH : Hid (∀ w1, Ext [] w w1 → ∀ va c, Co.Is w1 va l → (∀ ad, va = some ad → w.heap.size ≤ ad.block ∧ ad.block < w1.heap.size) → Calls Tryz.prog 68 #[.pointer (some ⟨p, 0, none⟩), .slice va l.length c] w1 (MPost w1 p (holdM M l) Y (.tuple #[]))) := fun w1 hE va c hI hva =>
      hold_any (h'.keep0 hE) hk.iv va _ c l hI rfl (by omega) (fun ad e => ⟨fun q => by have := (hYZ _ q).2; have := (hva ad e).1; omega, (hva ad e).2⟩)
    have HFn : Hid (∀ w1 wk, Mw wk p (holdM M l) (Co.Nw Y w1) → Calls Tryz.prog 69 #[.pointer (some ⟨p, 0, none⟩)] wk (MPost wk p (finishM (holdM M l)) (Co.Nw Y w1) (.tuple #[]))) := fun w1 wk hm => finish_any hm (hk.hold l)
    have HC : Hid (∀ w1, Ext [] w w1 → ∀ va c, Co.Is w1 va l → (∀ ad, va = some ad → w.heap.size ≤ ad.block ∧ ad.block < w1.heap.size) → ∀ wk, Mw wk p (finishM (holdM M l)) (Co.Nw Y w1) → Fx Y w1 wk → Calls Tryz.prog 70 #[.pointer (some ⟨p, 0, none⟩), .slice va l.length c] wk (MPost wk p (cycleM (finishM (holdM M l)) l) (Co.Nw Y w1) (.int .i64 (beginE (finishM (holdM M l)) l)))) := fun w1 hE va c hI hva wk hm hx => by
      obtain ⟨q1, q2⟩ := apart_is hI hva (fun k hk => (hYZ k hk).2) hx
      exact cycle_any hm ((hk.hold l).work _) va _ c l q1 rfl (by omega) q2
    have HFin : Hid (∀ w1 wk M' r, Ext [] w w1 → MPost w1 p M' Y r (.returned r) wk → MPost w p M' Z r (.returned r) wk) := fun w1 wk M' r hE hp => hp.back hE (fun k hk => (hYZ k hk).1)
    clear h hk hR hi h' hZ hYZ hN
    simp only
    generalize cycleM (finishM (holdM M l)) l = M3 at *
    generalize beginE (finishM (holdM M l)) l = er at *
    generalize finishM (holdM M l) = M2 at *
    generalize holdM M l = M1 at *
    go_enter Tryz.func32, Tryz.ntmps32
    go_wp2_with fail
    refine KN.mono ?_
    clear KN
    rintro e w1 ⟨hE, v, rfl, ho⟩
    obtain ⟨va, vc, rfl, hI, hva⟩ := own_is ho
    have K2 := HH.out w1 hE va vc hI hva
    have HC := hid (HC.out w1 hE va vc hI hva)
    have HE1 := hid hE
    clear hE ho hI hva HH
    go_wp2_with fail
    refine K2.mono ?_
    clear K2
    rintro e w2 hp
    have he := hp.1
    subst he
    have K3 := HFn.out w1 w2 hp.2.1
    have HP2 := hid hp
    clear hp HFn
    go_wp2_with fail
    refine K3.mono ?_
    clear K3
    rintro e w3 hp
    have he := hp.1
    subst he
    have HP3 := hid (HP2.out.then hp)
    clear hp HP2
    have K4 := HC.out w3 HP3.out.2.1 HP3.out.2.2
    clear HC
    go_wp2_with fail
    refine K4.mono ?_
    clear K4
    rintro e w4 hp
    have he := hp.1
    subst he
    have HP4 := hid (HP3.out.then hp)
    clear hp HP3
    go_wp2_with fail
    go_ret
    exact HFin.out w1 w4 _ _ HE1.out HP4.out

end

end Go.Proofs.YtbpjmcjjambdkaaGreatDoor
