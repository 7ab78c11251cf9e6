/-
  Which types are clean and whose parts are in order, as the document's answer by definition finds it; no statement is proved here.
-/
import Derived.Test.YtfabhhmeanpmhaaDoorRefA
namespace Go.Proofs.YtfabhhmeanpmhaaDoor
open Go.RowKit

theorem within_yes (a : Option Addr) (ts : List Ty) (N n c : Nat) (p : Int) (w : World) (hT : Tab w a ts) (hN : ts.length = N) (hn : n ≤ N) (h : Within ts n p) : Calls Tryd.prog 81 #[.slice a N c, .int .i64 p, .int .i64 n] w fun e w' => e = .returned (.bool true) ∧ w' = w := by
  obtain ⟨h1, h2, h3⟩ := h
  obtain ⟨q, rfl⟩ : ∃ q : Nat, p = q := ⟨p.toNat, by omega⟩
  obtain ⟨b, o, rfl, hc⟩ := hT.kind (p := q) (by omega)
  have hne : ((tyAt ts q).kind != 10) = true := by simpa using h3
  have hqN : (q : Int) < N := by omega
  clear hT hN h3
  go_enter Tryd.func81, Tryd.ntmps81
  go_wp2
  go_ret
  exact ⟨rfl, rfl⟩
theorem within_no (a : Option Addr) (ts : List Ty) (N n c : Nat) (p : Int) (w : World) (hT : Tab w a ts) (hN : ts.length = N) (hn : n ≤ N) (h : ¬ Within ts n p) : Calls Tryd.prog 81 #[.slice a N c, .int .i64 p, .int .i64 n] w fun e w' => e = .returned (.bool false) ∧ w' = w := by
  by_cases h1 : 0 ≤ p
  · by_cases h2 : p < n
    · have h3 : (tyAt ts p).kind = 10 := by
        by_cases e : (tyAt ts p).kind = 10
        · exact e
        · exact absurd ⟨h1, h2, e⟩ h
      clear h
      obtain ⟨q, rfl⟩ : ∃ q : Nat, p = q := ⟨p.toNat, by omega⟩
      obtain ⟨b, o, rfl, hc⟩ := hT.kind (p := q) (by omega)
      rw [h3] at hc
      have hqN : (q : Int) < N := by omega
      clear hT hN h3
      go_enter Tryd.func81, Tryd.ntmps81
      go_wp2
      go_ret
      exact ⟨rfl, rfl⟩
    · have hd : decide (p < (n : Int)) = false := decide_eq_false h2
      clear h hT hN h2
      go_enter Tryd.func81, Tryd.ntmps81
      go_wp2
      go_ret
      exact ⟨rfl, rfl⟩
  · have hd : decide (0 ≤ p) = false := decide_eq_false h1
    clear h hT hN
    go_enter Tryd.func81, Tryd.ntmps81
    go_wp2
    go_ret
    exact ⟨rfl, rfl⟩

theorem clean_len (t : Ty) : Clean t ↔ 1 ≤ t.kind ∧ t.kind ≤ 10 ∧ ((t.kind = 5 ∨ t.kind = 6 ∨ t.kind = 9 ∨ t.kind = 10) ∨ t.elem = 0) ∧ (t.kind = 6 ∨ t.key = 0) ∧ (t.kind = 9 ∨ t.len = 0) ∧ (t.kind = 8 ∨ t.fields.length = 0) := by
  unfold Clean; rw [List.length_eq_zero_iff]

theorem test_true {w w' : World} {p : Prop} (h : p) (e : Ext [] w w') : TestPost w p (.returned (.bool true)) w' := ⟨true, rfl, e, fun _ => h, fun _ => rfl⟩
theorem test_false {w w' : World} {p : Prop} (h : ¬ p) (e : Ext [] w w') : TestPost w p (.returned (.bool false)) w' := ⟨false, rfl, e, by simp, fun x => absurd x h⟩

set_option maxRecDepth 100000 in
set_option maxHeartbeats 4000000 in
theorem clean_any (t : Ty) (fa : Option Addr) (fc : Nat) (w : World) : Calls Tryd.prog 80 #[tyVal t fa fc] w (TestPost w (Clean t)) := by
  have HC := hid (clean_len t)
  unfold tyVal
  obtain ⟨K, A, Y, L, F⟩ := t
  simp only at *
  generalize F.length = fl at *
  by_cases h1 : 1 ≤ K
  · by_cases h2 : K ≤ 10
    · have hk : K = 1 ∨ K = 2 ∨ K = 3 ∨ K = 4 ∨ K = 5 ∨ K = 6 ∨ K = 7 ∨ K = 8 ∨ K = 9 ∨ K = 10 := by omega
      clear h1 h2
      rcases hk with rfl | rfl | rfl | rfl | rfl | rfl | rfl | rfl | rfl | rfl
      · by_cases eA : A = 0
        · have bA : (A == 0) = true := by simp [eA]
          have EA := hid eA
          clear eA
          by_cases eY : Y = 0
          · have bY : (Y == 0) = true := by simp [eY]
            have EY := hid eY
            clear eY
            by_cases eL : L = 0
            · have bL : (L == 0) = true := by simp [eL]
              have EL := hid eL
              clear eL
              by_cases eF : fl = 0
              · have bF : ((fl : Int) == 0) = true := by simp [eF]
                have EF := hid eF
                clear eF
                go_enter Tryd.func80, Tryd.ntmps80
                go_wp2
                go_ret
                exact test_true (HC.out.2 (by have := EA.out; have := EY.out; have := EL.out; have := EF.out; first | omega | (simp; done) | (simp; omega) | simp_all)) (Ext.alloc _ _ _)
              · have bF : ((fl : Int) == 0) = false := by simp [eF]
                have EF := hid eF
                clear eF
                go_enter Tryd.func80, Tryd.ntmps80
                go_wp2
                go_ret
                exact test_false (fun h => by have := HC.out.1 h; have := EF.out; omega) (Ext.alloc _ _ _)
            · have bL : (L == 0) = false := by simp [eL]
              have EL := hid eL
              clear eL
              go_enter Tryd.func80, Tryd.ntmps80
              go_wp2
              go_ret
              exact test_false (fun h => by have := HC.out.1 h; have := EL.out; omega) (Ext.alloc _ _ _)
          · have bY : (Y == 0) = false := by simp [eY]
            have EY := hid eY
            clear eY
            go_enter Tryd.func80, Tryd.ntmps80
            go_wp2
            go_ret
            exact test_false (fun h => by have := HC.out.1 h; have := EY.out; omega) (Ext.alloc _ _ _)
        · have bA : (A == 0) = false := by simp [eA]
          have EA := hid eA
          clear eA
          go_enter Tryd.func80, Tryd.ntmps80
          go_wp2
          go_ret
          exact test_false (fun h => by have := HC.out.1 h; have := EA.out; omega) (Ext.alloc _ _ _)
      · by_cases eA : A = 0
        · have bA : (A == 0) = true := by simp [eA]
          have EA := hid eA
          clear eA
          by_cases eY : Y = 0
          · have bY : (Y == 0) = true := by simp [eY]
            have EY := hid eY
            clear eY
            by_cases eL : L = 0
            · have bL : (L == 0) = true := by simp [eL]
              have EL := hid eL
              clear eL
              by_cases eF : fl = 0
              · have bF : ((fl : Int) == 0) = true := by simp [eF]
                have EF := hid eF
                clear eF
                go_enter Tryd.func80, Tryd.ntmps80
                go_wp2
                go_ret
                exact test_true (HC.out.2 (by have := EA.out; have := EY.out; have := EL.out; have := EF.out; first | omega | (simp; done) | (simp; omega) | simp_all)) (Ext.alloc _ _ _)
              · have bF : ((fl : Int) == 0) = false := by simp [eF]
                have EF := hid eF
                clear eF
                go_enter Tryd.func80, Tryd.ntmps80
                go_wp2
                go_ret
                exact test_false (fun h => by have := HC.out.1 h; have := EF.out; omega) (Ext.alloc _ _ _)
            · have bL : (L == 0) = false := by simp [eL]
              have EL := hid eL
              clear eL
              go_enter Tryd.func80, Tryd.ntmps80
              go_wp2
              go_ret
              exact test_false (fun h => by have := HC.out.1 h; have := EL.out; omega) (Ext.alloc _ _ _)
          · have bY : (Y == 0) = false := by simp [eY]
            have EY := hid eY
            clear eY
            go_enter Tryd.func80, Tryd.ntmps80
            go_wp2
            go_ret
            exact test_false (fun h => by have := HC.out.1 h; have := EY.out; omega) (Ext.alloc _ _ _)
        · have bA : (A == 0) = false := by simp [eA]
          have EA := hid eA
          clear eA
          go_enter Tryd.func80, Tryd.ntmps80
          go_wp2
          go_ret
          exact test_false (fun h => by have := HC.out.1 h; have := EA.out; omega) (Ext.alloc _ _ _)
      · by_cases eA : A = 0
        · have bA : (A == 0) = true := by simp [eA]
          have EA := hid eA
          clear eA
          by_cases eY : Y = 0
          · have bY : (Y == 0) = true := by simp [eY]
            have EY := hid eY
            clear eY
            by_cases eL : L = 0
            · have bL : (L == 0) = true := by simp [eL]
              have EL := hid eL
              clear eL
              by_cases eF : fl = 0
              · have bF : ((fl : Int) == 0) = true := by simp [eF]
                have EF := hid eF
                clear eF
                go_enter Tryd.func80, Tryd.ntmps80
                go_wp2
                go_ret
                exact test_true (HC.out.2 (by have := EA.out; have := EY.out; have := EL.out; have := EF.out; first | omega | (simp; done) | (simp; omega) | simp_all)) (Ext.alloc _ _ _)
              · have bF : ((fl : Int) == 0) = false := by simp [eF]
                have EF := hid eF
                clear eF
                go_enter Tryd.func80, Tryd.ntmps80
                go_wp2
                go_ret
                exact test_false (fun h => by have := HC.out.1 h; have := EF.out; omega) (Ext.alloc _ _ _)
            · have bL : (L == 0) = false := by simp [eL]
              have EL := hid eL
              clear eL
              go_enter Tryd.func80, Tryd.ntmps80
              go_wp2
              go_ret
              exact test_false (fun h => by have := HC.out.1 h; have := EL.out; omega) (Ext.alloc _ _ _)
          · have bY : (Y == 0) = false := by simp [eY]
            have EY := hid eY
            clear eY
            go_enter Tryd.func80, Tryd.ntmps80
            go_wp2
            go_ret
            exact test_false (fun h => by have := HC.out.1 h; have := EY.out; omega) (Ext.alloc _ _ _)
        · have bA : (A == 0) = false := by simp [eA]
          have EA := hid eA
          clear eA
          go_enter Tryd.func80, Tryd.ntmps80
          go_wp2
          go_ret
          exact test_false (fun h => by have := HC.out.1 h; have := EA.out; omega) (Ext.alloc _ _ _)
      · by_cases eA : A = 0
        · have bA : (A == 0) = true := by simp [eA]
          have EA := hid eA
          clear eA
          by_cases eY : Y = 0
          · have bY : (Y == 0) = true := by simp [eY]
            have EY := hid eY
            clear eY
            by_cases eL : L = 0
            · have bL : (L == 0) = true := by simp [eL]
              have EL := hid eL
              clear eL
              by_cases eF : fl = 0
              · have bF : ((fl : Int) == 0) = true := by simp [eF]
                have EF := hid eF
                clear eF
                go_enter Tryd.func80, Tryd.ntmps80
                go_wp2
                go_ret
                exact test_true (HC.out.2 (by have := EA.out; have := EY.out; have := EL.out; have := EF.out; first | omega | (simp; done) | (simp; omega) | simp_all)) (Ext.alloc _ _ _)
              · have bF : ((fl : Int) == 0) = false := by simp [eF]
                have EF := hid eF
                clear eF
                go_enter Tryd.func80, Tryd.ntmps80
                go_wp2
                go_ret
                exact test_false (fun h => by have := HC.out.1 h; have := EF.out; omega) (Ext.alloc _ _ _)
            · have bL : (L == 0) = false := by simp [eL]
              have EL := hid eL
              clear eL
              go_enter Tryd.func80, Tryd.ntmps80
              go_wp2
              go_ret
              exact test_false (fun h => by have := HC.out.1 h; have := EL.out; omega) (Ext.alloc _ _ _)
          · have bY : (Y == 0) = false := by simp [eY]
            have EY := hid eY
            clear eY
            go_enter Tryd.func80, Tryd.ntmps80
            go_wp2
            go_ret
            exact test_false (fun h => by have := HC.out.1 h; have := EY.out; omega) (Ext.alloc _ _ _)
        · have bA : (A == 0) = false := by simp [eA]
          have EA := hid eA
          clear eA
          go_enter Tryd.func80, Tryd.ntmps80
          go_wp2
          go_ret
          exact test_false (fun h => by have := HC.out.1 h; have := EA.out; omega) (Ext.alloc _ _ _)
      · by_cases eY : Y = 0
        · have bY : (Y == 0) = true := by simp [eY]
          have EY := hid eY
          clear eY
          by_cases eL : L = 0
          · have bL : (L == 0) = true := by simp [eL]
            have EL := hid eL
            clear eL
            by_cases eF : fl = 0
            · have bF : ((fl : Int) == 0) = true := by simp [eF]
              have EF := hid eF
              clear eF
              go_enter Tryd.func80, Tryd.ntmps80
              go_wp2
              go_ret
              exact test_true (HC.out.2 (by have := EY.out; have := EL.out; have := EF.out; first | omega | (simp; done) | (simp; omega) | simp_all)) (Ext.alloc _ _ _)
            · have bF : ((fl : Int) == 0) = false := by simp [eF]
              have EF := hid eF
              clear eF
              go_enter Tryd.func80, Tryd.ntmps80
              go_wp2
              go_ret
              exact test_false (fun h => by have := HC.out.1 h; have := EF.out; omega) (Ext.alloc _ _ _)
          · have bL : (L == 0) = false := by simp [eL]
            have EL := hid eL
            clear eL
            go_enter Tryd.func80, Tryd.ntmps80
            go_wp2
            go_ret
            exact test_false (fun h => by have := HC.out.1 h; have := EL.out; omega) (Ext.alloc _ _ _)
        · have bY : (Y == 0) = false := by simp [eY]
          have EY := hid eY
          clear eY
          go_enter Tryd.func80, Tryd.ntmps80
          go_wp2
          go_ret
          exact test_false (fun h => by have := HC.out.1 h; have := EY.out; omega) (Ext.alloc _ _ _)
      · by_cases eL : L = 0
        · have bL : (L == 0) = true := by simp [eL]
          have EL := hid eL
          clear eL
          by_cases eF : fl = 0
          · have bF : ((fl : Int) == 0) = true := by simp [eF]
            have EF := hid eF
            clear eF
            go_enter Tryd.func80, Tryd.ntmps80
            go_wp2
            go_ret
            exact test_true (HC.out.2 (by have := EL.out; have := EF.out; first | omega | (simp; done) | (simp; omega) | simp_all)) (Ext.alloc _ _ _)
          · have bF : ((fl : Int) == 0) = false := by simp [eF]
            have EF := hid eF
            clear eF
            go_enter Tryd.func80, Tryd.ntmps80
            go_wp2
            go_ret
            exact test_false (fun h => by have := HC.out.1 h; have := EF.out; omega) (Ext.alloc _ _ _)
        · have bL : (L == 0) = false := by simp [eL]
          have EL := hid eL
          clear eL
          go_enter Tryd.func80, Tryd.ntmps80
          go_wp2
          go_ret
          exact test_false (fun h => by have := HC.out.1 h; have := EL.out; omega) (Ext.alloc _ _ _)
      · by_cases eA : A = 0
        · have bA : (A == 0) = true := by simp [eA]
          have EA := hid eA
          clear eA
          by_cases eY : Y = 0
          · have bY : (Y == 0) = true := by simp [eY]
            have EY := hid eY
            clear eY
            by_cases eL : L = 0
            · have bL : (L == 0) = true := by simp [eL]
              have EL := hid eL
              clear eL
              by_cases eF : fl = 0
              · have bF : ((fl : Int) == 0) = true := by simp [eF]
                have EF := hid eF
                clear eF
                go_enter Tryd.func80, Tryd.ntmps80
                go_wp2
                go_ret
                exact test_true (HC.out.2 (by have := EA.out; have := EY.out; have := EL.out; have := EF.out; first | omega | (simp; done) | (simp; omega) | simp_all)) (Ext.alloc _ _ _)
              · have bF : ((fl : Int) == 0) = false := by simp [eF]
                have EF := hid eF
                clear eF
                go_enter Tryd.func80, Tryd.ntmps80
                go_wp2
                go_ret
                exact test_false (fun h => by have := HC.out.1 h; have := EF.out; omega) (Ext.alloc _ _ _)
            · have bL : (L == 0) = false := by simp [eL]
              have EL := hid eL
              clear eL
              go_enter Tryd.func80, Tryd.ntmps80
              go_wp2
              go_ret
              exact test_false (fun h => by have := HC.out.1 h; have := EL.out; omega) (Ext.alloc _ _ _)
          · have bY : (Y == 0) = false := by simp [eY]
            have EY := hid eY
            clear eY
            go_enter Tryd.func80, Tryd.ntmps80
            go_wp2
            go_ret
            exact test_false (fun h => by have := HC.out.1 h; have := EY.out; omega) (Ext.alloc _ _ _)
        · have bA : (A == 0) = false := by simp [eA]
          have EA := hid eA
          clear eA
          go_enter Tryd.func80, Tryd.ntmps80
          go_wp2
          go_ret
          exact test_false (fun h => by have := HC.out.1 h; have := EA.out; omega) (Ext.alloc _ _ _)
      · by_cases eA : A = 0
        · have bA : (A == 0) = true := by simp [eA]
          have EA := hid eA
          clear eA
          by_cases eY : Y = 0
          · have bY : (Y == 0) = true := by simp [eY]
            have EY := hid eY
            clear eY
            by_cases eL : L = 0
            · have bL : (L == 0) = true := by simp [eL]
              have EL := hid eL
              clear eL
              go_enter Tryd.func80, Tryd.ntmps80
              go_wp2
              go_ret
              exact test_true (HC.out.2 (by have := EA.out; have := EY.out; have := EL.out; first | omega | (simp; done) | (simp; omega) | simp_all)) (Ext.alloc _ _ _)
            · have bL : (L == 0) = false := by simp [eL]
              have EL := hid eL
              clear eL
              go_enter Tryd.func80, Tryd.ntmps80
              go_wp2
              go_ret
              exact test_false (fun h => by have := HC.out.1 h; have := EL.out; omega) (Ext.alloc _ _ _)
          · have bY : (Y == 0) = false := by simp [eY]
            have EY := hid eY
            clear eY
            go_enter Tryd.func80, Tryd.ntmps80
            go_wp2
            go_ret
            exact test_false (fun h => by have := HC.out.1 h; have := EY.out; omega) (Ext.alloc _ _ _)
        · have bA : (A == 0) = false := by simp [eA]
          have EA := hid eA
          clear eA
          go_enter Tryd.func80, Tryd.ntmps80
          go_wp2
          go_ret
          exact test_false (fun h => by have := HC.out.1 h; have := EA.out; omega) (Ext.alloc _ _ _)
      · by_cases eY : Y = 0
        · have bY : (Y == 0) = true := by simp [eY]
          have EY := hid eY
          clear eY
          by_cases eF : fl = 0
          · have bF : ((fl : Int) == 0) = true := by simp [eF]
            have EF := hid eF
            clear eF
            go_enter Tryd.func80, Tryd.ntmps80
            go_wp2
            go_ret
            exact test_true (HC.out.2 (by have := EY.out; have := EF.out; first | omega | (simp; done) | (simp; omega) | simp_all)) (Ext.alloc _ _ _)
          · have bF : ((fl : Int) == 0) = false := by simp [eF]
            have EF := hid eF
            clear eF
            go_enter Tryd.func80, Tryd.ntmps80
            go_wp2
            go_ret
            exact test_false (fun h => by have := HC.out.1 h; have := EF.out; omega) (Ext.alloc _ _ _)
        · have bY : (Y == 0) = false := by simp [eY]
          have EY := hid eY
          clear eY
          go_enter Tryd.func80, Tryd.ntmps80
          go_wp2
          go_ret
          exact test_false (fun h => by have := HC.out.1 h; have := EY.out; omega) (Ext.alloc _ _ _)
      · by_cases eY : Y = 0
        · have bY : (Y == 0) = true := by simp [eY]
          have EY := hid eY
          clear eY
          by_cases eL : L = 0
          · have bL : (L == 0) = true := by simp [eL]
            have EL := hid eL
            clear eL
            by_cases eF : fl = 0
            · have bF : ((fl : Int) == 0) = true := by simp [eF]
              have EF := hid eF
              clear eF
              go_enter Tryd.func80, Tryd.ntmps80
              go_wp2
              go_ret
              exact test_true (HC.out.2 (by have := EY.out; have := EL.out; have := EF.out; first | omega | (simp; done) | (simp; omega) | simp_all)) (Ext.alloc _ _ _)
            · have bF : ((fl : Int) == 0) = false := by simp [eF]
              have EF := hid eF
              clear eF
              go_enter Tryd.func80, Tryd.ntmps80
              go_wp2
              go_ret
              exact test_false (fun h => by have := HC.out.1 h; have := EF.out; omega) (Ext.alloc _ _ _)
          · have bL : (L == 0) = false := by simp [eL]
            have EL := hid eL
            clear eL
            go_enter Tryd.func80, Tryd.ntmps80
            go_wp2
            go_ret
            exact test_false (fun h => by have := HC.out.1 h; have := EL.out; omega) (Ext.alloc _ _ _)
        · have bY : (Y == 0) = false := by simp [eY]
          have EY := hid eY
          clear eY
          go_enter Tryd.func80, Tryd.ntmps80
          go_wp2
          go_ret
          exact test_false (fun h => by have := HC.out.1 h; have := EY.out; omega) (Ext.alloc _ _ _)
    · have HX := hid h2
      have b5 : (K == 5) = false := by simp; omega
      have b6 : (K == 6) = false := by simp; omega
      have b9 : (K == 9) = false := by simp; omega
      have b10 : (K == 10) = false := by simp; omega
      have hd : decide (K ≤ 10) = false := decide_eq_false h2
      have hd1 : decide (1 ≤ K) = true := decide_eq_true h1
      clear h2
      go_enter Tryd.func80, Tryd.ntmps80
      go_wp2
      go_ret
      exact test_false (fun h => by have := HC.out.1 h; have := HX.out; omega) (Ext.alloc _ _ _)
  · have HX := hid h1
    have b5 : (K == 5) = false := by simp; omega
    have b6 : (K == 6) = false := by simp; omega
    have b9 : (K == 9) = false := by simp; omega
    have b10 : (K == 10) = false := by simp; omega
    have hd : decide (1 ≤ K) = false := decide_eq_false h1
    clear h1
    go_enter Tryd.func80, Tryd.ntmps80
    go_wp2
    go_ret
    exact test_false (fun h => by have := HC.out.1 h; have := HX.out; omega) (Ext.alloc _ _ _)

end Go.Proofs.YtfabhhmeanpmhaaDoor
