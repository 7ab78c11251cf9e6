/-
  release: a run is given back and joined with its neighbours; no statement is proved here.
-/
import Derived.Test.YtlajjcboahflbaaDoorTake
import Derived.Deep.Cut
namespace Go.Proofs.YtlajjcboahflbaaDoor
open Go.RowKit

/-- The first run that is joined, and the first behind the last. -/
def relF (L : List Rn) (i : Nat) : Nat := if 0 < i ∧ (rnAt L (i - 1)).u = false then i - 1 else i
def relE (L : List Rn) (i : Nat) : Nat := if i + 1 < L.length ∧ (rnAt L (i + 1)).u = false then i + 2 else i + 1
/-- The pages of the first k runs of a list. -/
def sumTo (L : List Rn) : Nat → Nat
  | 0 => 0
  | k + 1 => sumTo L k + (rnAt L k).n
def relJ (L : List Rn) (i : Nat) : Rn := ⟨(rnAt L (relF L i)).s, sumTo (L.drop (relF L i)) (relE L i - relF L i), false⟩
def relL (L : List Rn) (i : Nat) : List Rn := L.take (relF L i) ++ [relJ L i] ++ L.drop (relE L i)

theorem relF_le (L : List Rn) (i : Nat) : relF L i ≤ i := by unfold relF; split <;> omega
theorem relE_gt (L : List Rn) (i : Nat) : i < relE L i := by unfold relE; split <;> omega
theorem relE_le (L : List Rn) (i : Nat) (h : i < L.length) : relE L i ≤ L.length := by unfold relE; split <;> omega
theorem rnAt_drop (L : List Rn) (f k : Nat) : rnAt (L.drop f) k = rnAt L (f + k) := by simp [rnAt, List.getD]

/-- All runs of a list hold few pages. -/
def Few (L : List Rn) : Prop := ∀ k, k ≤ L.length → ∀ f, f ≤ k → sumTo (L.drop f) (k - f) ≤ 1024

set_option maxRecDepth 100000 in
set_option maxHeartbeats 4000000 in
theorem release_any {T : TypeId} {ox : Nat} {cs : Array Value} (p i : Nat) (v : Value) (L : List Rn) (w : World) (hR : Rs T ox cs w p v L) (hi : i < L.length) (hf : Few L) (hlen : L.length ≤ 10000) :
    Calls Tryd.prog 74 #[.pointer (some ⟨p, ox + 1, none⟩), .int .i64 i] w (TkPost T ox cs w p v (relL L i)) := by
  obtain ⟨g, c, rfl, hnc, hcm, hgl, hcs⟩ := hR.row.at_ (by omega)
  have hc := hR.cell
  have hpg : p ≠ g := by rintro rfl; exact hR.ne rfl
  have hpl := hR.lt
  have HR := hid hR
  have HC := hid hcs
  unfold maxLen at hcm
  clear hR hcs
  have HFF : Hid (∀ b, (0 < i ∧ (rnAt L (i - 1)).u = false → b = i - 1) → (¬ (0 < i ∧ (rnAt L (i - 1)).u = false) → b = i) → b = relF L i) := fun b h1 h2 => by
    unfold relF; split
    · exact h1 ‹_›
    · exact h2 ‹_›
  have HEE : Hid (∀ b, (i + 1 < L.length ∧ (rnAt L (i + 1)).u = false → b = i + 2) → (¬ (i + 1 < L.length ∧ (rnAt L (i + 1)).u = false) → b = i + 1) → b = relE L i) := fun b h1 h2 => by
    unfold relE; split
    · exact h1 ‹_›
    · exact h2 ‹_›
  have hfl := relF_le L i
  have hel := relE_gt L i
  have heu := relE_le L i hi
  have HFew := hid hf
  have HRL : Hid (relL L i = L.take (relF L i) ++ [⟨(rnAt L (relF L i)).s, sumTo (L.drop (relF L i)) (relE L i - relF L i), false⟩] ++ L.drop (relE L i)) := rfl
  clear hf
  generalize relF L i = f at *
  generalize relE L i = e at *
  generalize relL L i = L' at *
  generalize hl : L.length = len at *
  have HLen := hid hl
  clear hl
  go_enter Tryd.func74, Tryd.ntmps74
  go_upto_region 1 with fail
  go_cut [25] from 12 (fun a wc => a = .bool (decide (0 < i ∧ (rnAt L (i - 1)).u = false)) ∧ wc = w)
  case first =>
    by_cases h0 : 0 < i
    · obtain ⟨_, _, c2⟩ := HC.out (i - 1) (by omega)
      have e1 : ((i : Int) - 1) = ((i - 1 : Nat) : Int) := by omega
      have hd : decide ((i : Int) > 0) = true := by simp; omega
      have hil : i - 1 < len := by omega
      have HT : Hid (decide (0 < i ∧ (rnAt L (i - 1)).u = false) = !(rnAt L (i - 1)).u) := by
        show _ = _
        cases (rnAt L (i - 1)).u <;> simp [h0]
      generalize (rnAt L (i - 1)).u = b at *
      generalize i - 1 = k at *
      go_wp2_with fail
      go_meet
      exact ⟨by rw [HT.out], rfl⟩
    · have HT : Hid (decide (0 < i ∧ (rnAt L (i - 1)).u = false) = false) := by
        show _ = _
        simp [h0]
      go_wp2_with fail
      go_meet
      exact ⟨by rw [HT.out], rfl⟩
  case rest =>
    obtain ⟨rfl, rfl⟩ := hcut
    have HF1 : Hid ((decide (0 < i ∧ (rnAt L (i - 1)).u = false) = true → ((i : Int) - 1) = (f : Nat)) ∧ (decide (0 < i ∧ (rnAt L (i - 1)).u = false) = false → i = f)) := by
      refine ⟨fun h => ?_, fun h => ?_⟩
      · have h1 := of_decide_eq_true h
        have := HFF.out (i - 1) (fun _ => rfl) (fun h => absurd h1 h)
        omega
      · have h1 := of_decide_eq_false h
        exact HFF.out i (fun h => absurd h h1) (fun _ => rfl)
    generalize decide (0 < i ∧ (rnAt L (i - 1)).u = false) = b1 at *
    go_upto_if 25 with fail
    go_cut [4] from 12 (fun a wd => a = .int .i64 (f : Nat) ∧ wd = wc)
    case first =>
      cases b1
      · have h := HF1.out.2 rfl
        have H := hid h
        clear h
        go_wp2_with fail
        go_meet
        exact ⟨by rw [← H.out], rfl⟩
      · have h := HF1.out.1 rfl
        have H := hid h
        clear h
        go_wp2_with fail
        go_meet
        exact ⟨by rw [← H.out], rfl⟩
    case rest =>
      obtain ⟨rfl, rfl⟩ := hcut
      clear HF1
      go_upto_region 3 with fail
      go_cut [45] from 12 (fun a wd => a = .bool (decide (i + 1 < len ∧ (rnAt L (i + 1)).u = false)) ∧ wd = wc)
      case first =>
        by_cases h0 : i + 1 < len
        · obtain ⟨_, _, c2⟩ := HC.out (i + 1) (by omega)
          have e1 : ((i : Int) + 1) = ((i + 1 : Nat) : Int) := by omega
          have hd : decide ((i : Int) + 1 < len) = true := by simp; omega
          have HT : Hid (decide (i + 1 < len ∧ (rnAt L (i + 1)).u = false) = !(rnAt L (i + 1)).u) := by
            show _ = _
            cases (rnAt L (i + 1)).u <;> simp [h0]
          generalize (rnAt L (i + 1)).u = b at *
          generalize hk : i + 1 = k at *
          go_wp2_with fail
          go_meet
          exact ⟨by rw [HT.out], rfl⟩
        · have HT : Hid (decide (i + 1 < len ∧ (rnAt L (i + 1)).u = false) = false) := by
            show _ = _
            simp [h0]
          have hd : decide ((i : Int) + 1 < len) = false := by simp; omega
          go_wp2_with fail
          go_meet
          exact ⟨by rw [HT.out], rfl⟩
      case rest =>
        obtain ⟨rfl, rfl⟩ := hcut
        have HF1 : Hid ((decide (i + 1 < len ∧ (rnAt L (i + 1)).u = false) = true → i + 2 = e) ∧ (decide (i + 1 < len ∧ (rnAt L (i + 1)).u = false) = false → i + 1 = e)) := by
          refine ⟨fun h => ?_, fun h => ?_⟩
          · have h1 := of_decide_eq_true h
            exact HEE.out (i + 2) (fun _ => rfl) (fun h => absurd h1 h)
          · have h1 := of_decide_eq_false h
            exact HEE.out (i + 1) (fun h => absurd h h1) (fun _ => rfl)
        generalize decide (i + 1 < len ∧ (rnAt L (i + 1)).u = false) = b1 at *
        go_upto_if 45 with fail
        go_cut [5] from 12 (fun a wd => a = .int .i64 (e : Nat) ∧ wd = wc)
        case first =>
          cases b1
          · have h := HF1.out.2 rfl
            have H := hid h
            clear h
            go_wp2_with fail
            go_meet
            exact ⟨by rw [← H.out]; go_num, rfl⟩
          · have h := HF1.out.1 rfl
            have H := hid h
            clear h
            go_wp2_with fail
            go_meet
            exact ⟨by rw [← H.out]; go_num, rfl⟩
        case rest =>
          obtain ⟨rfl, rfl⟩ := hcut
          clear HF1
          obtain ⟨s0, _, _⟩ := HC.out f (by omega)
          go_wp2_with fail
          have HO0 : Hid (One (wc.alloc (.cells #[.int .i64 (rnAt L f).s, .int .i64 0, .bool false] 38)) wc.heap.size ⟨(rnAt L f).s, 0, false⟩) := heap_alloc_new _ _
          have hfs : Hid (∀ k, k ≤ e - f → sumTo (L.drop f) k ≤ 1024) := fun k hk => by
            have := HFew.out (f + k) (by rw [HLen.out]; omega) f (by omega)
            rwa [Nat.add_sub_cancel_left] at this
          generalize hs0 : (rnAt L f).s = s at *
          have HS0 := hid hs0
          clear hs0 s0
          have hfe : f < e := by omega
          go_loopw [65] (fun q wr => ∃ k : Nat, q = .int .i64 k ∧ k ≤ e - f ∧ One wr wc.heap.size ⟨s, sumTo (L.drop f) k, false⟩ ∧ Ext [] wc wr) (fun q _ => ((e - f : Nat) - (intOf q)).toNat)
          case atStart => exact ⟨0, rfl, Nat.zero_le _, HO0.out, Ext.alloc _ _ _⟩
          case round =>
            clear HO0
            obtain ⟨k, rfl, hk, hO, hE⟩ := hrel
            by_cases hlt : k < e - f
            · obtain ⟨q0, q1, q2⟩ := HC.out (f + k) (by omega)
              rw [show (f + k) * 3 = f * 3 + k * 3 by omega] at q0 q1 q2
              replace q0 := hE.cell q0 (by simp)
              replace q1 := hE.cell q1 (by simp)
              replace q2 := hE.cell q2 (by simp)
              have o1 : wr.cell? ⟨wc.heap.size, 1, none⟩ = some (.int .i64 (sumTo (L.drop f) k)) := by rw [cell_of_row _ _ _ _ _ _ hO]; rfl
              have of := frozen_of_row _ _ 1 _ _ hO
              have hol := lt_of_heap hO
              have HSn : Hid (sumTo (L.drop f) (k + 1) = sumTo (L.drop f) k + (rnAt L (f + k)).n) := by
                show sumTo (L.drop f) k + (rnAt (L.drop f) k).n = _
                rw [rnAt_drop]
              have hb1 := hfs.out (k + 1) (by omega)
              rw [HSn.out] at hb1
              have HO := hid hO
              have HE := hid hE
              clear hO hE
              generalize sumTo (L.drop f) k = S at *
              generalize rnAt L (f + k) = y at *
              go_wp2_with fail
              go_roundw
              case rel =>
                refine ⟨k + 1, by go_num, by omega, ?_, ?_⟩
                · have h1 := heap_setCell_same wr wc.heap.size 1 _ _ (.int .i64 ((S : Int) + y.n)) HO.out
                  have h2 := (Ext.alloc [] (wr.setCell ⟨wc.heap.size, 1, none⟩ (.int .i64 ((S : Int) + y.n))) (.cells #[.int .i64 y.s, .int .i64 y.n, .bool y.u] 38)).keep h1 (by simp)
                  unfold One
                  rw [h2, HSn.out]
                  simp
                · exact (HE.out.on (Ext.setCell [wc.heap.size] _ _ _ (by simp)) (by simp)).trans (Ext.alloc [] _ _)
              case measure => simp [intOf]; omega
            · obtain rfl : k = e - f := by omega
              have HO := hid hO
              have HE := hid hE
              clear hO hE
              have hcw := HE.out.cell hc (by simp)
              have hpw : p < wr.heap.size := by have := HE.out.size; omega
              have o0 : wr.cell? ⟨wc.heap.size, 0, none⟩ = some (.int .i64 s) := by rw [cell_of_row _ _ _ _ _ _ HO.out]; rfl
              have o1 : wr.cell? ⟨wc.heap.size, 1, none⟩ = some (.int .i64 (sumTo (L.drop f) (e - f))) := by rw [cell_of_row _ _ _ _ _ _ HO.out]; rfl
              have o2 : wr.cell? ⟨wc.heap.size, 2, none⟩ = some (.bool false) := by rw [cell_of_row _ _ _ _ _ _ HO.out]; rfl
              have hol := lt_of_heap HO.out
              have hLw : Hid (L.take f ++ [⟨s, sumTo (L.drop f) (e - f), false⟩] ++ L.drop e = L') := HRL.out.symm
              generalize sumTo (L.drop f) (e - f) = S at *
              have hE2 : Ext [] wr (wr.alloc (.cells #[.int .i64 s, .int .i64 S, .bool false] 38)).drew := (Ext.alloc [] _ _).trans (Ext.drew [] _)
              have hy : One (wr.alloc (.cells #[.int .i64 s, .int .i64 S, .bool false] 38)).drew wr.heap.size ⟨s, S, false⟩ := heap_alloc_new wr _
              have hRw := (HR.out.keep0 HE.out).keep0 hE2
              have K := replace_any (.slice (some ⟨g, 0, none⟩) len c) f e L _ hRw.row hfe (by rw [HLen.out]; exact heu) (by rw [HLen.out]; omega) wr.heap.size _ hy
              have HB : Hid (∀ w2, Ext [g] (wr.alloc (.cells #[.int .i64 s, .int .i64 S, .bool false] 38)).drew w2 → Bx T ox cs w2 p (.slice (some ⟨g, 0, none⟩) len c) ∧ Ext [p, g] wc w2) := fun w2 h =>
                ⟨hRw.box.keep h (by simpa using hpg), (((HE.out.trans hE2).mono (by simp)).trans h).mono (by simp)⟩
              clear hy hE2 hRw
              go_wp2_with fail
              go_region_law (go_simp; go_wp2_with (first | (go_at_call 85; refine K.mono ?_; clear K; rintro e w2 ⟨v', rfl, hL2, hON, hE3⟩; obtain ⟨hb2, hX2⟩ := HB.out w2 hE3; have k0 : w2.cell? ⟨p, ox + 1, none⟩ = some (.slice (some ⟨g, 0, none⟩) len c) := hcell3 hb2; have kf := frozen_of_row w2 p (ox + 1) _ _ hb2.at_; obtain ⟨a', c', hv', _⟩ := hL2.slice; rw [hLw.out] at hL2 hv'; subst hv')))
              all_goals
                go_end0
                exact tk_fin hb2 hL2 hON (by have := HE.out.size; simp; omega) hX2

end Go.Proofs.YtlajjcboahflbaaDoor
