/-
  TRefC, TRefD, TRefE, TRefF: joined by program; no statement is proved here.
-/
import Derived.Test.YtbpjmcjjambdkaaGreatDoorZAD
/-
  Which types are clean and whose parts are in order, as the document's answer by definition finds it; no statement is proved here.
-/
namespace Go.Proofs.YtbpjmcjjambdkaaGreatDoor.Ty
open Go.RowKit

theorem within_yes (a : Option Addr) (ts : List Ty) (N n c : Nat) (p : Int) (w : World) (hT : Tab w a ts) (hN : ts.length = N) (hn : n ≤ N) (h : Within ts n p) : Calls Tryz.prog 121 #[.slice a N c, .int .i64 p, .int .i64 n] w fun e w' => e = .returned (.bool true) ∧ w' = w := by
  obtain ⟨h1, h2, h3⟩ := h
  obtain ⟨q, rfl⟩ : ∃ q : Nat, p = q := ⟨p.toNat, by omega⟩
  obtain ⟨b, o, rfl, hc⟩ := hT.kind (p := q) (by omega)
  have hne : ((tyAt ts q).kind != 10) = true := by simpa using h3
  have hqN : (q : Int) < N := by omega
  clear hT hN h3
  go_enter Tryz.func121, Tryz.ntmps121
  go_wp2
  go_ret
  exact ⟨rfl, rfl⟩
theorem within_no (a : Option Addr) (ts : List Ty) (N n c : Nat) (p : Int) (w : World) (hT : Tab w a ts) (hN : ts.length = N) (hn : n ≤ N) (h : ¬ Within ts n p) : Calls Tryz.prog 121 #[.slice a N c, .int .i64 p, .int .i64 n] w fun e w' => e = .returned (.bool false) ∧ w' = w := by
  by_cases h1 : 0 ≤ p
  · by_cases h2 : p < n
    · have h3 : (tyAt ts p).kind = 10 := by
        by_cases e : (tyAt ts p).kind = 10
        · exact e
        · exact absurd ⟨h1, h2, e⟩ h
      clear h
      obtain ⟨q, rfl⟩ : ∃ q : Nat, p = q := ⟨p.toNat, by omega⟩
      obtain ⟨b, o, rfl, hc⟩ := hT.kind (p := q) (by omega)
      rw [h3] at hc
      have hqN : (q : Int) < N := by omega
      clear hT hN h3
      go_enter Tryz.func121, Tryz.ntmps121
      go_wp2
      go_ret
      exact ⟨rfl, rfl⟩
    · have hd : decide (p < (n : Int)) = false := decide_eq_false h2
      clear h hT hN h2
      go_enter Tryz.func121, Tryz.ntmps121
      go_wp2
      go_ret
      exact ⟨rfl, rfl⟩
  · have hd : decide (0 ≤ p) = false := decide_eq_false h1
    clear h hT hN
    go_enter Tryz.func121, Tryz.ntmps121
    go_wp2
    go_ret
    exact ⟨rfl, rfl⟩

theorem clean_len (t : Ty) : Clean t ↔ 1 ≤ t.kind ∧ t.kind ≤ 10 ∧ ((t.kind = 5 ∨ t.kind = 6 ∨ t.kind = 9 ∨ t.kind = 10) ∨ t.elem = 0) ∧ (t.kind = 6 ∨ t.key = 0) ∧ (t.kind = 9 ∨ t.len = 0) ∧ (t.kind = 8 ∨ t.fields.length = 0) := by
  unfold Clean; rw [List.length_eq_zero_iff]

theorem test_true {w w' : World} {p : Prop} (h : p) (e : Ext [] w w') : TestPost w p (.returned (.bool true)) w' := ⟨true, rfl, e, fun _ => h, fun _ => rfl⟩
theorem test_false {w w' : World} {p : Prop} (h : ¬ p) (e : Ext [] w w') : TestPost w p (.returned (.bool false)) w' := ⟨false, rfl, e, by simp, fun x => absurd x h⟩

set_option maxRecDepth 100000 in
set_option maxHeartbeats 4000000 in
theorem clean_any (t : Ty) (fa : Option Addr) (fc : Nat) (w : World) : Calls Tryz.prog 120 #[tyVal t fa fc] w (TestPost w (Clean t)) := by
  have HC := hid (clean_len t)
  unfold tyVal
  obtain ⟨K, A, Y, L, F⟩ := t
  simp only at *
  generalize F.length = fl at *
  by_cases h1 : 1 ≤ K
  · by_cases h2 : K ≤ 10
    · have hk : K = 1 ∨ K = 2 ∨ K = 3 ∨ K = 4 ∨ K = 5 ∨ K = 6 ∨ K = 7 ∨ K = 8 ∨ K = 9 ∨ K = 10 := by omega
      clear h1 h2
      rcases hk with rfl | rfl | rfl | rfl | rfl | rfl | rfl | rfl | rfl | rfl
      · by_cases eA : A = 0
        · have bA : (A == 0) = true := by simp [eA]
          have EA := hid eA
          clear eA
          by_cases eY : Y = 0
          · have bY : (Y == 0) = true := by simp [eY]
            have EY := hid eY
            clear eY
            by_cases eL : L = 0
            · have bL : (L == 0) = true := by simp [eL]
              have EL := hid eL
              clear eL
              by_cases eF : fl = 0
              · have bF : ((fl : Int) == 0) = true := by simp [eF]
                have EF := hid eF
                clear eF
                go_enter Tryz.func120, Tryz.ntmps120
                go_wp2
                go_ret
                exact test_true (HC.out.2 (by have := EA.out; have := EY.out; have := EL.out; have := EF.out; first | omega | (simp; done) | (simp; omega) | simp_all)) (Ext.alloc _ _ _)
              · have bF : ((fl : Int) == 0) = false := by simp [eF]
                have EF := hid eF
                clear eF
                go_enter Tryz.func120, Tryz.ntmps120
                go_wp2
                go_ret
                exact test_false (fun h => by have := HC.out.1 h; have := EF.out; omega) (Ext.alloc _ _ _)
            · have bL : (L == 0) = false := by simp [eL]
              have EL := hid eL
              clear eL
              go_enter Tryz.func120, Tryz.ntmps120
              go_wp2
              go_ret
              exact test_false (fun h => by have := HC.out.1 h; have := EL.out; omega) (Ext.alloc _ _ _)
          · have bY : (Y == 0) = false := by simp [eY]
            have EY := hid eY
            clear eY
            go_enter Tryz.func120, Tryz.ntmps120
            go_wp2
            go_ret
            exact test_false (fun h => by have := HC.out.1 h; have := EY.out; omega) (Ext.alloc _ _ _)
        · have bA : (A == 0) = false := by simp [eA]
          have EA := hid eA
          clear eA
          go_enter Tryz.func120, Tryz.ntmps120
          go_wp2
          go_ret
          exact test_false (fun h => by have := HC.out.1 h; have := EA.out; omega) (Ext.alloc _ _ _)
      · by_cases eA : A = 0
        · have bA : (A == 0) = true := by simp [eA]
          have EA := hid eA
          clear eA
          by_cases eY : Y = 0
          · have bY : (Y == 0) = true := by simp [eY]
            have EY := hid eY
            clear eY
            by_cases eL : L = 0
            · have bL : (L == 0) = true := by simp [eL]
              have EL := hid eL
              clear eL
              by_cases eF : fl = 0
              · have bF : ((fl : Int) == 0) = true := by simp [eF]
                have EF := hid eF
                clear eF
                go_enter Tryz.func120, Tryz.ntmps120
                go_wp2
                go_ret
                exact test_true (HC.out.2 (by have := EA.out; have := EY.out; have := EL.out; have := EF.out; first | omega | (simp; done) | (simp; omega) | simp_all)) (Ext.alloc _ _ _)
              · have bF : ((fl : Int) == 0) = false := by simp [eF]
                have EF := hid eF
                clear eF
                go_enter Tryz.func120, Tryz.ntmps120
                go_wp2
                go_ret
                exact test_false (fun h => by have := HC.out.1 h; have := EF.out; omega) (Ext.alloc _ _ _)
            · have bL : (L == 0) = false := by simp [eL]
              have EL := hid eL
              clear eL
              go_enter Tryz.func120, Tryz.ntmps120
              go_wp2
              go_ret
              exact test_false (fun h => by have := HC.out.1 h; have := EL.out; omega) (Ext.alloc _ _ _)
          · have bY : (Y == 0) = false := by simp [eY]
            have EY := hid eY
            clear eY
            go_enter Tryz.func120, Tryz.ntmps120
            go_wp2
            go_ret
            exact test_false (fun h => by have := HC.out.1 h; have := EY.out; omega) (Ext.alloc _ _ _)
        · have bA : (A == 0) = false := by simp [eA]
          have EA := hid eA
          clear eA
          go_enter Tryz.func120, Tryz.ntmps120
          go_wp2
          go_ret
          exact test_false (fun h => by have := HC.out.1 h; have := EA.out; omega) (Ext.alloc _ _ _)
      · by_cases eA : A = 0
        · have bA : (A == 0) = true := by simp [eA]
          have EA := hid eA
          clear eA
          by_cases eY : Y = 0
          · have bY : (Y == 0) = true := by simp [eY]
            have EY := hid eY
            clear eY
            by_cases eL : L = 0
            · have bL : (L == 0) = true := by simp [eL]
              have EL := hid eL
              clear eL
              by_cases eF : fl = 0
              · have bF : ((fl : Int) == 0) = true := by simp [eF]
                have EF := hid eF
                clear eF
                go_enter Tryz.func120, Tryz.ntmps120
                go_wp2
                go_ret
                exact test_true (HC.out.2 (by have := EA.out; have := EY.out; have := EL.out; have := EF.out; first | omega | (simp; done) | (simp; omega) | simp_all)) (Ext.alloc _ _ _)
              · have bF : ((fl : Int) == 0) = false := by simp [eF]
                have EF := hid eF
                clear eF
                go_enter Tryz.func120, Tryz.ntmps120
                go_wp2
                go_ret
                exact test_false (fun h => by have := HC.out.1 h; have := EF.out; omega) (Ext.alloc _ _ _)
            · have bL : (L == 0) = false := by simp [eL]
              have EL := hid eL
              clear eL
              go_enter Tryz.func120, Tryz.ntmps120
              go_wp2
              go_ret
              exact test_false (fun h => by have := HC.out.1 h; have := EL.out; omega) (Ext.alloc _ _ _)
          · have bY : (Y == 0) = false := by simp [eY]
            have EY := hid eY
            clear eY
            go_enter Tryz.func120, Tryz.ntmps120
            go_wp2
            go_ret
            exact test_false (fun h => by have := HC.out.1 h; have := EY.out; omega) (Ext.alloc _ _ _)
        · have bA : (A == 0) = false := by simp [eA]
          have EA := hid eA
          clear eA
          go_enter Tryz.func120, Tryz.ntmps120
          go_wp2
          go_ret
          exact test_false (fun h => by have := HC.out.1 h; have := EA.out; omega) (Ext.alloc _ _ _)
      · by_cases eA : A = 0
        · have bA : (A == 0) = true := by simp [eA]
          have EA := hid eA
          clear eA
          by_cases eY : Y = 0
          · have bY : (Y == 0) = true := by simp [eY]
            have EY := hid eY
            clear eY
            by_cases eL : L = 0
            · have bL : (L == 0) = true := by simp [eL]
              have EL := hid eL
              clear eL
              by_cases eF : fl = 0
              · have bF : ((fl : Int) == 0) = true := by simp [eF]
                have EF := hid eF
                clear eF
                go_enter Tryz.func120, Tryz.ntmps120
                go_wp2
                go_ret
                exact test_true (HC.out.2 (by have := EA.out; have := EY.out; have := EL.out; have := EF.out; first | omega | (simp; done) | (simp; omega) | simp_all)) (Ext.alloc _ _ _)
              · have bF : ((fl : Int) == 0) = false := by simp [eF]
                have EF := hid eF
                clear eF
                go_enter Tryz.func120, Tryz.ntmps120
                go_wp2
                go_ret
                exact test_false (fun h => by have := HC.out.1 h; have := EF.out; omega) (Ext.alloc _ _ _)
            · have bL : (L == 0) = false := by simp [eL]
              have EL := hid eL
              clear eL
              go_enter Tryz.func120, Tryz.ntmps120
              go_wp2
              go_ret
              exact test_false (fun h => by have := HC.out.1 h; have := EL.out; omega) (Ext.alloc _ _ _)
          · have bY : (Y == 0) = false := by simp [eY]
            have EY := hid eY
            clear eY
            go_enter Tryz.func120, Tryz.ntmps120
            go_wp2
            go_ret
            exact test_false (fun h => by have := HC.out.1 h; have := EY.out; omega) (Ext.alloc _ _ _)
        · have bA : (A == 0) = false := by simp [eA]
          have EA := hid eA
          clear eA
          go_enter Tryz.func120, Tryz.ntmps120
          go_wp2
          go_ret
          exact test_false (fun h => by have := HC.out.1 h; have := EA.out; omega) (Ext.alloc _ _ _)
      · by_cases eY : Y = 0
        · have bY : (Y == 0) = true := by simp [eY]
          have EY := hid eY
          clear eY
          by_cases eL : L = 0
          · have bL : (L == 0) = true := by simp [eL]
            have EL := hid eL
            clear eL
            by_cases eF : fl = 0
            · have bF : ((fl : Int) == 0) = true := by simp [eF]
              have EF := hid eF
              clear eF
              go_enter Tryz.func120, Tryz.ntmps120
              go_wp2
              go_ret
              exact test_true (HC.out.2 (by have := EY.out; have := EL.out; have := EF.out; first | omega | (simp; done) | (simp; omega) | simp_all)) (Ext.alloc _ _ _)
            · have bF : ((fl : Int) == 0) = false := by simp [eF]
              have EF := hid eF
              clear eF
              go_enter Tryz.func120, Tryz.ntmps120
              go_wp2
              go_ret
              exact test_false (fun h => by have := HC.out.1 h; have := EF.out; omega) (Ext.alloc _ _ _)
          · have bL : (L == 0) = false := by simp [eL]
            have EL := hid eL
            clear eL
            go_enter Tryz.func120, Tryz.ntmps120
            go_wp2
            go_ret
            exact test_false (fun h => by have := HC.out.1 h; have := EL.out; omega) (Ext.alloc _ _ _)
        · have bY : (Y == 0) = false := by simp [eY]
          have EY := hid eY
          clear eY
          go_enter Tryz.func120, Tryz.ntmps120
          go_wp2
          go_ret
          exact test_false (fun h => by have := HC.out.1 h; have := EY.out; omega) (Ext.alloc _ _ _)
      · by_cases eL : L = 0
        · have bL : (L == 0) = true := by simp [eL]
          have EL := hid eL
          clear eL
          by_cases eF : fl = 0
          · have bF : ((fl : Int) == 0) = true := by simp [eF]
            have EF := hid eF
            clear eF
            go_enter Tryz.func120, Tryz.ntmps120
            go_wp2
            go_ret
            exact test_true (HC.out.2 (by have := EL.out; have := EF.out; first | omega | (simp; done) | (simp; omega) | simp_all)) (Ext.alloc _ _ _)
          · have bF : ((fl : Int) == 0) = false := by simp [eF]
            have EF := hid eF
            clear eF
            go_enter Tryz.func120, Tryz.ntmps120
            go_wp2
            go_ret
            exact test_false (fun h => by have := HC.out.1 h; have := EF.out; omega) (Ext.alloc _ _ _)
        · have bL : (L == 0) = false := by simp [eL]
          have EL := hid eL
          clear eL
          go_enter Tryz.func120, Tryz.ntmps120
          go_wp2
          go_ret
          exact test_false (fun h => by have := HC.out.1 h; have := EL.out; omega) (Ext.alloc _ _ _)
      · by_cases eA : A = 0
        · have bA : (A == 0) = true := by simp [eA]
          have EA := hid eA
          clear eA
          by_cases eY : Y = 0
          · have bY : (Y == 0) = true := by simp [eY]
            have EY := hid eY
            clear eY
            by_cases eL : L = 0
            · have bL : (L == 0) = true := by simp [eL]
              have EL := hid eL
              clear eL
              by_cases eF : fl = 0
              · have bF : ((fl : Int) == 0) = true := by simp [eF]
                have EF := hid eF
                clear eF
                go_enter Tryz.func120, Tryz.ntmps120
                go_wp2
                go_ret
                exact test_true (HC.out.2 (by have := EA.out; have := EY.out; have := EL.out; have := EF.out; first | omega | (simp; done) | (simp; omega) | simp_all)) (Ext.alloc _ _ _)
              · have bF : ((fl : Int) == 0) = false := by simp [eF]
                have EF := hid eF
                clear eF
                go_enter Tryz.func120, Tryz.ntmps120
                go_wp2
                go_ret
                exact test_false (fun h => by have := HC.out.1 h; have := EF.out; omega) (Ext.alloc _ _ _)
            · have bL : (L == 0) = false := by simp [eL]
              have EL := hid eL
              clear eL
              go_enter Tryz.func120, Tryz.ntmps120
              go_wp2
              go_ret
              exact test_false (fun h => by have := HC.out.1 h; have := EL.out; omega) (Ext.alloc _ _ _)
          · have bY : (Y == 0) = false := by simp [eY]
            have EY := hid eY
            clear eY
            go_enter Tryz.func120, Tryz.ntmps120
            go_wp2
            go_ret
            exact test_false (fun h => by have := HC.out.1 h; have := EY.out; omega) (Ext.alloc _ _ _)
        · have bA : (A == 0) = false := by simp [eA]
          have EA := hid eA
          clear eA
          go_enter Tryz.func120, Tryz.ntmps120
          go_wp2
          go_ret
          exact test_false (fun h => by have := HC.out.1 h; have := EA.out; omega) (Ext.alloc _ _ _)
      · by_cases eA : A = 0
        · have bA : (A == 0) = true := by simp [eA]
          have EA := hid eA
          clear eA
          by_cases eY : Y = 0
          · have bY : (Y == 0) = true := by simp [eY]
            have EY := hid eY
            clear eY
            by_cases eL : L = 0
            · have bL : (L == 0) = true := by simp [eL]
              have EL := hid eL
              clear eL
              go_enter Tryz.func120, Tryz.ntmps120
              go_wp2
              go_ret
              exact test_true (HC.out.2 (by have := EA.out; have := EY.out; have := EL.out; first | omega | (simp; done) | (simp; omega) | simp_all)) (Ext.alloc _ _ _)
            · have bL : (L == 0) = false := by simp [eL]
              have EL := hid eL
              clear eL
              go_enter Tryz.func120, Tryz.ntmps120
              go_wp2
              go_ret
              exact test_false (fun h => by have := HC.out.1 h; have := EL.out; omega) (Ext.alloc _ _ _)
          · have bY : (Y == 0) = false := by simp [eY]
            have EY := hid eY
            clear eY
            go_enter Tryz.func120, Tryz.ntmps120
            go_wp2
            go_ret
            exact test_false (fun h => by have := HC.out.1 h; have := EY.out; omega) (Ext.alloc _ _ _)
        · have bA : (A == 0) = false := by simp [eA]
          have EA := hid eA
          clear eA
          go_enter Tryz.func120, Tryz.ntmps120
          go_wp2
          go_ret
          exact test_false (fun h => by have := HC.out.1 h; have := EA.out; omega) (Ext.alloc _ _ _)
      · by_cases eY : Y = 0
        · have bY : (Y == 0) = true := by simp [eY]
          have EY := hid eY
          clear eY
          by_cases eF : fl = 0
          · have bF : ((fl : Int) == 0) = true := by simp [eF]
            have EF := hid eF
            clear eF
            go_enter Tryz.func120, Tryz.ntmps120
            go_wp2
            go_ret
            exact test_true (HC.out.2 (by have := EY.out; have := EF.out; first | omega | (simp; done) | (simp; omega) | simp_all)) (Ext.alloc _ _ _)
          · have bF : ((fl : Int) == 0) = false := by simp [eF]
            have EF := hid eF
            clear eF
            go_enter Tryz.func120, Tryz.ntmps120
            go_wp2
            go_ret
            exact test_false (fun h => by have := HC.out.1 h; have := EF.out; omega) (Ext.alloc _ _ _)
        · have bY : (Y == 0) = false := by simp [eY]
          have EY := hid eY
          clear eY
          go_enter Tryz.func120, Tryz.ntmps120
          go_wp2
          go_ret
          exact test_false (fun h => by have := HC.out.1 h; have := EY.out; omega) (Ext.alloc _ _ _)
      · by_cases eY : Y = 0
        · have bY : (Y == 0) = true := by simp [eY]
          have EY := hid eY
          clear eY
          by_cases eL : L = 0
          · have bL : (L == 0) = true := by simp [eL]
            have EL := hid eL
            clear eL
            by_cases eF : fl = 0
            · have bF : ((fl : Int) == 0) = true := by simp [eF]
              have EF := hid eF
              clear eF
              go_enter Tryz.func120, Tryz.ntmps120
              go_wp2
              go_ret
              exact test_true (HC.out.2 (by have := EY.out; have := EL.out; have := EF.out; first | omega | (simp; done) | (simp; omega) | simp_all)) (Ext.alloc _ _ _)
            · have bF : ((fl : Int) == 0) = false := by simp [eF]
              have EF := hid eF
              clear eF
              go_enter Tryz.func120, Tryz.ntmps120
              go_wp2
              go_ret
              exact test_false (fun h => by have := HC.out.1 h; have := EF.out; omega) (Ext.alloc _ _ _)
          · have bL : (L == 0) = false := by simp [eL]
            have EL := hid eL
            clear eL
            go_enter Tryz.func120, Tryz.ntmps120
            go_wp2
            go_ret
            exact test_false (fun h => by have := HC.out.1 h; have := EL.out; omega) (Ext.alloc _ _ _)
        · have bY : (Y == 0) = false := by simp [eY]
          have EY := hid eY
          clear eY
          go_enter Tryz.func120, Tryz.ntmps120
          go_wp2
          go_ret
          exact test_false (fun h => by have := HC.out.1 h; have := EY.out; omega) (Ext.alloc _ _ _)
    · have HX := hid h2
      have b5 : (K == 5) = false := by simp; omega
      have b6 : (K == 6) = false := by simp; omega
      have b9 : (K == 9) = false := by simp; omega
      have b10 : (K == 10) = false := by simp; omega
      have hd : decide (K ≤ 10) = false := decide_eq_false h2
      have hd1 : decide (1 ≤ K) = true := decide_eq_true h1
      clear h2
      go_enter Tryz.func120, Tryz.ntmps120
      go_wp2
      go_ret
      exact test_false (fun h => by have := HC.out.1 h; have := HX.out; omega) (Ext.alloc _ _ _)
  · have HX := hid h1
    have b5 : (K == 5) = false := by simp; omega
    have b6 : (K == 6) = false := by simp; omega
    have b9 : (K == 9) = false := by simp; omega
    have b10 : (K == 10) = false := by simp; omega
    have hd : decide (1 ≤ K) = false := decide_eq_false h1
    clear h1
    go_enter Tryz.func120, Tryz.ntmps120
    go_wp2
    go_ret
    exact test_false (fun h => by have := HC.out.1 h; have := HX.out; omega) (Ext.alloc _ _ _)

end Go.Proofs.YtbpjmcjjambdkaaGreatDoor.Ty

/-
  Whose parts are in order, as the document's answer by definition finds it; no statement is proved here.
-/
namespace Go.Proofs.YtbpjmcjjambdkaaGreatDoor.Ty
open Go.RowKit

set_option maxRecDepth 100000 in
set_option maxHeartbeats 1000000 in
theorem parted_array (a : Option Addr) (ts : List Ty) (n c i : Nat) (w : World) (hT : Tab w a ts) (hn : ts.length = n) (hi : i < n) (k9 : (tyAt ts i).kind = 9) (hf0 : (tyAt ts i).fields.length = 0) (p : Prop) (HPp : Hid (p ↔ 1 ≤ (tyAt ts i).len ∧ (tyAt ts i).len ≤ 16 ∧ Within ts i (tyAt ts i).elem)) :
    Calls Tryz.prog 122 #[.slice a n c, .int .i64 i] w (TestPost w p) := by
  obtain ⟨b, o, rfl, hta⟩ := hT.addr (by omega)
  obtain ⟨fa, fc, d0, d1, d2, d3, d4, hfo⟩ := hta i (by omega)
  rw [k9] at d0
  rw [hf0] at d4
  have hl := hT.len
  rw [hn] at hl
  have hE1 := Ext.alloc [] w (.cells #[.int .i64 9, .int .i64 (tyAt ts i).elem, .int .i64 (tyAt ts i).key, .int .i64 (tyAt ts i).len, .slice fa 0 fc] 56)
  have HT := hid (hT.keep0 hE1)
  have HN := hid hn
  clear hta hfo hT hn k9 hf0 hE1
  generalize tyAt ts i = t at *
  by_cases h1 : 1 ≤ t.len
  · by_cases h2 : t.len ≤ 16
    · have hd1 : decide (t.len < 1) = false := decide_eq_false (by omega)
      have hd2 : decide (16 < t.len) = false := decide_eq_false (by omega)
      by_cases hw : Within ts i t.elem
      · have K := within_yes (some ⟨b, o, none⟩) ts n i c t.elem _ HT.out HN.out (by omega) hw
        have HX := hid (HPp.out.2 ⟨h1, h2, hw⟩)
        clear hw
        go_enter Tryz.func122, Tryz.ntmps122
        go_wp2_with (go_at_call 121; refine met K ?_)
        go_loop [6] (fun q => q = .int .i64 0) (fun _ => 0)
        case atStart => rfl
        case round =>
          subst hrel
          go_wp2_with fail
          go_ret
          exact test_true HX.out (Ext.alloc _ _ _)
      · have K := within_no (some ⟨b, o, none⟩) ts n i c t.elem _ HT.out HN.out (by omega) hw
        have HX := hid (show ¬ p from fun h => hw (HPp.out.1 h).2.2)
        clear hw
        go_enter Tryz.func122, Tryz.ntmps122
        go_wp2_with (go_at_call 121; refine met K ?_)
        go_ret
        exact test_false HX.out (Ext.alloc _ _ _)
    · have HX := hid (show ¬ p from fun h => h2 (HPp.out.1 h).2.1)
      have hd1 : decide (t.len < 1) = false := decide_eq_false (by omega)
      have hd2 : decide (16 < t.len) = true := decide_eq_true (by omega)
      go_enter Tryz.func122, Tryz.ntmps122
      go_wp2_with fail
      go_ret
      exact test_false HX.out (Ext.alloc _ _ _)
  · have HX := hid (show ¬ p from fun h => h1 (HPp.out.1 h).1)
    have hd1 : decide (t.len < 1) = true := decide_eq_true (by omega)
    go_enter Tryz.func122, Tryz.ntmps122
    go_wp2_with fail
    go_ret
    exact test_false HX.out (Ext.alloc _ _ _)

set_option maxRecDepth 100000 in
set_option maxHeartbeats 1000000 in
theorem parted_struct (a : Option Addr) (ts : List Ty) (n c i : Nat) (w : World) (hT : Tab w a ts) (hn : ts.length = n) (hi : i < n) (k8 : (tyAt ts i).kind = 8) (p : Prop) (HPp : Hid (p ↔ 1 ≤ (tyAt ts i).fields.length ∧ (tyAt ts i).fields.length ≤ 16 ∧ ∀ f ∈ (tyAt ts i).fields, Within ts i f)) :
    Calls Tryz.prog 122 #[.slice a n c, .int .i64 i] w (TestPost w p) := by
  obtain ⟨b, o, rfl, hta⟩ := hT.addr (by omega)
  obtain ⟨fa, fc, d0, d1, d2, d3, d4, hfo⟩ := hta i (by omega)
  rw [k8] at d0
  have hl := hT.len
  rw [hn] at hl
  have hE1 := Ext.alloc [] w (.cells #[.int .i64 8, .int .i64 (tyAt ts i).elem, .int .i64 (tyAt ts i).key, .int .i64 (tyAt ts i).len, .slice fa (tyAt ts i).fields.length fc] 56)
  have HT := hid (hT.keep0 hE1)
  have HF := hid hfo
  have HN := hid hn
  have HE1 := hid hE1
  have HFB : Hid (∀ fb fo, fa = some ⟨fb, fo, none⟩ → (tyAt ts i).fields ≠ [] → fb < w.heap.size) := fun fb fo e h0 => by
    obtain ⟨b', o', he, hc⟩ := hfo.1.at_ h0
    rw [e] at he
    cases he
    exact block_lt_of_cell (hc 0 (List.length_pos_iff.2 h0))
  clear hta hfo hT hn k8 hE1
  generalize tyAt ts i = t at *
  by_cases h1 : 1 ≤ t.fields.length
  · by_cases h2 : t.fields.length ≤ 16
    · have hd1 : decide ((t.fields.length : Int) < 1) = false := decide_eq_false (by omega)
      have hd2 : decide (16 < (t.fields.length : Int)) = false := decide_eq_false (by omega)
      have hne : t.fields ≠ [] := List.length_pos_iff.1 (by omega)
      obtain ⟨fb, fo, rfl, hfc⟩ := HF.out.1.at_ hne
      have hfb := HFB.out fb fo rfl hne
      have HFC := hid hfc
      clear hfc hne
      go_enter Tryz.func122, Tryz.ntmps122
      go_wp2_with fail
      go_loop [6] (fun q => ∃ k : Nat, q = .int .i64 k ∧ k ≤ t.fields.length ∧ ∀ j, j < k → Within ts i (t.fields.getD j 0)) (fun q => (t.fields.length - (intOf q)).toNat)
      case atStart => exact ⟨0, rfl, Nat.zero_le _, fun j hj => by omega⟩
      case round =>
        obtain ⟨k, rfl, hk, hall⟩ := hrel
        have HA := hid hall
        clear hall
        by_cases hkm : k < t.fields.length
        · have hck := HFC.out k hkm
          have HMem : Hid (t.fields.getD k 0 ∈ t.fields) := by show _ ∈ _; simp [List.getD, hkm]
          generalize hx : t.fields.getD k 0 = x at *
          have HXX := hid hx
          clear hx
          by_cases hw : Within ts i x
          · have K := within_yes (some ⟨b, o, none⟩) ts n i c x _ HT.out HN.out (by omega) hw
            have HW := hid hw
            clear hw
            go_wp2_with (go_at_call 121; refine met K ?_)
            go_round
            case rel => exact ⟨k + 1, by go_num, by omega, fun j hj => by
              rcases (by omega : j < k ∨ j = k) with h | rfl
              · exact HA.out j h
              · rw [HXX.out]; exact HW.out⟩
            case measure => simp [intOf]; omega
          · have K := within_no (some ⟨b, o, none⟩) ts n i c x _ HT.out HN.out (by omega) hw
            have HW := hid hw
            clear hw
            go_wp2_with (go_at_call 121; refine met K ?_)
            go_ret
            exact test_false (fun h => HW.out ((HPp.out.1 h).2.2 _ HMem.out)) HE1.out
        · go_wp2_with fail
          go_ret
          refine test_true (HPp.out.2 ⟨h1, h2, fun f hf => ?_⟩) HE1.out
          obtain ⟨j, hj, rfl⟩ := List.getElem_of_mem hf
          have := HA.out j (by omega)
          simpa [List.getD, hj] using this
    · have hd1 : decide ((t.fields.length : Int) < 1) = false := decide_eq_false (by omega)
      have hd2 : decide (16 < (t.fields.length : Int)) = true := decide_eq_true (by omega)
      have HX := hid h2
      clear h2
      go_enter Tryz.func122, Tryz.ntmps122
      go_wp2_with fail
      go_ret
      exact test_false (fun h => HX.out (HPp.out.1 h).2.1) (Ext.alloc _ _ _)
  · have hd1 : decide ((t.fields.length : Int) < 1) = true := decide_eq_true (by omega)
    have HX := hid h1
    clear h1
    go_enter Tryz.func122, Tryz.ntmps122
    go_wp2_with fail
    go_ret
    exact test_false (fun h => HX.out (HPp.out.1 h).1) (Ext.alloc _ _ _)

end Go.Proofs.YtbpjmcjjambdkaaGreatDoor.Ty

/-
  Which types and tables are sound, as the document's answer by definition finds it; no statement is proved here.
-/
namespace Go.Proofs.YtbpjmcjjambdkaaGreatDoor.Ty
open Go.RowKit

theorem plain_ok {ts : List Ty} {i : Nat} (hi : i < ts.length) (h : Formed ts i) (h8 : ¬ ((tyAt ts i).kind = 8 ∨ (tyAt ts i).kind = 9)) : OkAt ts i := by
  refine ⟨h, ?_⟩
  have hp : parts (tyAt ts i) = [] := by unfold parts; rw [if_neg (by omega), if_neg (by omega)]
  rw [plain_wide h hi hp]
  omega

set_option maxRecDepth 100000 in
set_option maxHeartbeats 2000000 in
theorem sound_any (a : Option Addr) (ts : List Ty) (n c i : Nat) (w : World) (hT : Tab w a ts) (hn : ts.length = n) (hi : i < n) (hok : ∀ j, j < i → OkAt ts j) :
    Calls Tryz.prog 75 #[.slice a n c, .int .i64 i] w (TestPost w (OkAt ts i)) := by
  obtain ⟨b, o, rfl, hta⟩ := hT.addr (by omega)
  obtain ⟨fa, fc, h0, h1, h2, h3, h4, hF⟩ := hta i (by omega)
  have hl := hT.len
  rw [hn] at hl
  have HP : Hid (Formed ts i ↔ Clean (tyAt ts i) ∧ Names ts i (tyAt ts i)) := Iff.rfl
  have HPO := hid (plain_ok (ts := ts) (i := i) (by omega))
  have HWO := hid (fun w (h : Formed ts i) hT => widthOf_any ts (some ⟨b, o, none⟩) n c hn (i + 1) i (by omega) hi hok h w hT)
  have HPA := hid (fun w hT => parted_array (some ⟨b, o, none⟩) ts n c i w hT hn hi)
  have HPS := hid (fun w hT => parted_struct (some ⟨b, o, none⟩) ts n c i w hT hn hi)
  have HT := hid hT
  have HN := hid hn
  have HOk : Hid (OkAt ts i → Formed ts i) := fun h => h.1
  have HOW : Hid (OkAt ts i ↔ Formed ts i ∧ (M ts i).width ≤ 16) := Iff.rfl
  generalize (M ts i).width = mw at *
  generalize tyAt ts i = t at *
  have hE1 := Ext.alloc [] w (.cells #[.int .i64 t.kind, .int .i64 t.elem, .int .i64 t.key, .int .i64 t.len, .slice fa t.fields.length fc] 56)
  have HE1 := hid hE1
  have HB1 := hid (Boxed.new w t fa fc)
  have K1 := clean_any t fa fc (w.alloc (.cells #[.int .i64 t.kind, .int .i64 t.elem, .int .i64 t.key, .int .i64 t.len, .slice fa t.fields.length fc] 56))
  unfold tyVal at K1
  clear hT hF hn hta hok hE1
  go_enter Tryz.func75, Tryz.ntmps75
  go_wp2_with fail
  refine K1.mono ?_
  clear K1 h0 h1 h2 h3 h4
  rintro e w2 ⟨r, rfl, hE2, hr⟩
  have hB2 := HB1.out.keep0 hE2
  have HE2 := hid (HE1.out.trans hE2)
  have HT2 := hid (HT.out.keep0 HE2.out)
  obtain ⟨c0, c1, c2, c3, c4⟩ := hB2
  clear hE2 HB1 HE1
  cases r with
  | false =>
    have HC : Hid (¬ OkAt ts i) := fun h => by
      have := hr.2 (HP.out.1 (HOk.out h)).1
      cases this
    clear hr
    go_wp2_with fail
    go_ret
    exact test_false HC.out HE2.out
  | true =>
    have HC : Hid (Formed ts i ↔ Names ts i t) := HP.out.trans ⟨fun h => h.2, fun h => ⟨hr.1 rfl, h⟩⟩
    have HCl := hid ((clean_len t).1 (hr.1 rfl))
    clear hr
    by_cases k8 : t.kind = 8 ∨ t.kind = 9
    · have KP : ∃ p : Prop, Calls Tryz.prog 122 #[.slice (some ⟨b, o, none⟩) n c, .int .i64 i] w2 (TestPost w2 p) ∧ (p ↔ Formed ts i) := by
        rcases k8 with k | k
        · exact ⟨Formed ts i, HPS.out w2 HT2.out k _ (by show _ ↔ _; rw [HC.out]; unfold Names; simp [k]), Iff.rfl⟩
        · exact ⟨Formed ts i, HPA.out w2 HT2.out k (by have := HCl.out; omega) _ (by show _ ↔ _; rw [HC.out]; unfold Names; simp [k]), Iff.rfl⟩
      obtain ⟨p, KP, hp⟩ := KP
      have HPP := hid hp
      clear hp HPS HPA HPO
      rcases k8 with k8 | k8
      all_goals
        rw [k8] at c0
        clear k8
        go_wp2_with fail
        refine KP.mono ?_
        rintro e w3 ⟨r3, rfl, hE3, hr3⟩
        have HE3 := hid (HE2.out.trans hE3)
        have HT3 := hid (HT2.out.keep0 hE3)
        clear hE3 KP
        cases r3 with
        | false =>
          have HX : Hid (¬ OkAt ts i) := fun h => by
            have := hr3.2 (HPP.out.2 (HOk.out h))
            cases this
          clear hr3
          go_wp2_with fail
          go_ret
          exact test_false HX.out HE3.out
        | true =>
          have HFm := hid (HPP.out.1 (hr3.1 rfl))
          clear hr3
          have KW := HWO.out w3 HFm.out HT3.out
          go_wp2_with fail
          refine KW.mono ?_
          clear KW
          rintro e w4 ⟨rfl, hE4⟩
          have HE4 := hid (HE3.out.trans hE4)
          clear hE4
          by_cases hm : mw ≤ 16
          · have hd : decide (mw ≤ 16) = true := decide_eq_true hm
            have HX := hid (HOW.out.2 ⟨HFm.out, hm⟩)
            clear hm
            go_wp2_with fail
            go_ret
            exact test_true HX.out HE4.out
          · have hd : decide (mw ≤ 16) = false := decide_eq_false hm
            have HX := hid (show ¬ OkAt ts i from fun h => hm (HOW.out.1 h).2)
            clear hm
            go_wp2_with fail
            go_ret
            exact test_false HX.out HE4.out
    have HD : Hid (OkAt ts i ↔ Names ts i t) := ⟨fun h => HC.out.1 (HOk.out h), fun h => HPO.out (HC.out.2 h) k8⟩
    have b8 : (t.kind == 8) = false := by simp; omega
    have b9 : (t.kind == 9) = false := by simp; omega
    have h8 : t.kind ≠ 8 := by omega
    have h9 : t.kind ≠ 9 := by omega
    clear k8 HPS HPA HPO HWO
    by_cases k5 : t.kind = 5
    · have HQ : Hid (OkAt ts i ↔ Within ts n t.elem) := by
        refine HD.out.trans ?_
        rw [← HN.out]; unfold Names; simp [k5]
      rw [k5] at c0
      clear k5 b8 b9 h8 h9
      by_cases hw : Within ts n t.elem
      · have K := within_yes (some ⟨b, o, none⟩) ts n n c t.elem w2 HT2.out HN.out (Nat.le_refl _) hw
        have HX := hid (HQ.out.2 hw)
        clear hw
        go_wp2_with (go_at_call 121; refine met K ?_)
        go_ret
        exact test_true HX.out HE2.out
      · have K := within_no (some ⟨b, o, none⟩) ts n n c t.elem w2 HT2.out HN.out (Nat.le_refl _) hw
        have HX := hid (fun h => hw (HQ.out.1 h))
        clear hw
        go_wp2_with (go_at_call 121; refine met K ?_)
        go_ret
        exact test_false HX.out HE2.out
    by_cases k6 : t.kind = 6
    · have HQ : Hid (OkAt ts i ↔ Within ts n t.key ∧ Within ts n t.elem) := by
        refine HD.out.trans ?_
        rw [← HN.out]; unfold Names; simp [k6]
      rw [k6] at c0
      clear k5 k6 b8 b9 h8 h9
      by_cases hw : Within ts n t.elem
      · have K := within_yes (some ⟨b, o, none⟩) ts n n c t.elem w2 HT2.out HN.out (Nat.le_refl _) hw
        by_cases hv : Within ts n t.key
        · have K' := within_yes (some ⟨b, o, none⟩) ts n n c t.key w2 HT2.out HN.out (Nat.le_refl _) hv
          have HX := hid (HQ.out.2 ⟨hv, hw⟩)
          clear hw hv
          go_wp2_with fail
          refine met K ?_
          go_wp2_with fail
          refine met K' ?_
          go_wp2_with fail
          go_ret
          exact test_true HX.out HE2.out
        · have K' := within_no (some ⟨b, o, none⟩) ts n n c t.key w2 HT2.out HN.out (Nat.le_refl _) hv
          have HX := hid (fun h => hv (HQ.out.1 h).1)
          clear hw hv
          go_wp2_with fail
          refine met K ?_
          go_wp2_with fail
          refine met K' ?_
          go_wp2_with fail
          go_ret
          exact test_false HX.out HE2.out
      · have K := within_no (some ⟨b, o, none⟩) ts n n c t.elem w2 HT2.out HN.out (Nat.le_refl _) hw
        have HX := hid (fun h => hw (HQ.out.1 h).2)
        clear hw
        go_wp2_with fail
        refine met K ?_
        go_wp2_with fail
        go_ret
        exact test_false HX.out HE2.out
    by_cases k10 : t.kind = 10
    · have HQ : Hid (OkAt ts i ↔ 0 ≤ t.elem ∧ t.elem < n ∧ (tyAt ts t.elem).kind = 6) := by
        refine HD.out.trans ?_
        rw [← HN.out]; unfold Names; simp [k10]
      rw [k10] at c0
      clear k5 k6 k10 b8 b9 h8 h9
      by_cases g0 : 0 ≤ t.elem
      · by_cases g1 : t.elem < n
        · obtain ⟨q, hq⟩ : ∃ q : Nat, t.elem = q := ⟨t.elem.toNat, by omega⟩
          obtain ⟨b', o', he, hcq⟩ := HT2.out.kind (p := q) (by have := HN.out; omega)
          cases he
          rw [hq] at c1 g0 g1 HQ
          have hd0 : decide ((0 : Int) ≤ (q : Int)) = true := decide_eq_true g0
          have hd1 : decide ((q : Int) < (n : Int)) = true := decide_eq_true g1
          clear hq
          by_cases hv : (tyAt ts q).kind = 6
          · rw [hv] at hcq
            have HX := hid (HQ.out.2 ⟨g0, g1, hv⟩)
            clear hv g0
            go_wp2_with fail
            go_ret
            exact test_true HX.out HE2.out
          · have hb : ((tyAt ts q).kind == 6) = false := by simpa using hv
            have HX := hid (fun h => hv (HQ.out.1 h).2.2)
            clear hv g0
            go_wp2_with fail
            go_ret
            exact test_false HX.out HE2.out
        · have hd0 : decide (0 ≤ t.elem) = true := decide_eq_true g0
          have hd1 : decide (t.elem < (n : Int)) = false := decide_eq_false g1
          have HX := hid (fun h => g1 (HQ.out.1 h).2.1)
          clear g1
          go_wp2_with fail
          go_ret
          exact test_false HX.out HE2.out
      · have hd0 : decide (0 ≤ t.elem) = false := decide_eq_false g0
        have HX := hid (fun h => g0 (HQ.out.1 h).1)
        clear g0
        go_wp2_with fail
        go_ret
        exact test_false HX.out HE2.out
    · have HX : Hid (OkAt ts i) := HD.out.2 (by unfold Names; simp [k5, k6, h8, h9, k10])
      have b5 : (t.kind == 5) = false := by simpa using k5
      have b6 : (t.kind == 6) = false := by simpa using k6
      have b10 : (t.kind == 10) = false := by simpa using k10
      clear k5 k6 k10 h8 h9
      go_wp2_with fail
      go_ret
      exact test_true HX.out HE2.out

end Go.Proofs.YtbpjmcjjambdkaaGreatDoor.Ty

/-
  What the document's answer by definition says of a table and of a type of it; no statement is proved here.
-/
namespace Go.Proofs.YtbpjmcjjambdkaaGreatDoor.Ty
open Go.RowKit

set_option maxRecDepth 100000 in
set_option maxHeartbeats 2000000 in
theorem rcheck_any (a : Option Addr) (ts : List Ty) (n c : Nat) (w : World) (hT : Tab w a ts) (hn : ts.length = n) : Calls Tryz.prog 37 #[.slice a n c] w (SayPost w (.int .i64 (chk ts))) := by
  have HT := hid hT
  have HN := hid hn
  have hl := hT.len
  rw [hn] at hl
  clear hT hn
  by_cases h64 : n ≤ 64
  · go_enter Tryz.func37, Tryz.ntmps37
    go_wp2_with fail
    go_loopw [3] (fun u wr => ∃ k : Nat, u = .int .i64 k ∧ k ≤ n ∧ Ext [] w wr ∧ ∀ i, i < k → OkAt ts i) (fun u _ => (n - (intOf u)).toNat)
    case atStart => exact ⟨0, rfl, Nat.zero_le _, Ext.refl _ _, fun i hi => by omega⟩
    case round =>
      obtain ⟨k, rfl, hk, hE, hok⟩ := hrel
      have HE := hid hE
      have HO := hid hok
      clear hE hok
      by_cases hlt : k < n
      · have K := sound_any a ts n c k wr (HT.out.keep0 HE.out) HN.out hlt HO.out
        go_wp2_with fail
        refine K.mono ?_
        clear K
        rintro e w2 ⟨r, rfl, hE2, hr⟩
        have HE2 := hid (HE.out.trans hE2)
        clear hE2
        cases r with
        | false =>
          have HX : Hid (¬ Sound ts) := fun h => by
            have := hr.2 (h.2.1 k (by rw [HN.out]; exact hlt))
            cases this
          clear hr
          go_wp2_with fail
          go_ret
          exact ⟨ret_int (chk_no HX.out).symm, HE2.out⟩
        | true =>
          have HX := hid (hr.1 rfl)
          clear hr
          go_wp2_with fail
          go_roundw
          case rel => exact ⟨k + 1, by go_num, by omega, HE2.out, fun i hi => by
            rcases (by omega : i < k ∨ i = k) with h | rfl
            · exact HO.out i h
            · exact HX.out⟩
          case measure => simp [intOf]; omega
      · obtain rfl : k = n := by omega
        have HAO : Hid (AllOk ts) := fun i hi => HO.out i (by have := HN.out; omega)
        clear HO
        go_wp2_with fail
        go_loopw [4] (fun u wv => ∃ m : Nat, u = .int .i64 m ∧ m ≤ k ∧ Ext [] w wv ∧ ∀ i, i < m → KeyOk ts i) (fun u _ => (k - (intOf u)).toNat)
        case atStart => exact ⟨0, rfl, Nat.zero_le _, HE.out, fun i hi => by omega⟩
        case round =>
          obtain ⟨m, rfl, hm, hEm, hko⟩ := hrel
          have HEm := hid hEm
          have HKO := hid hko
          clear hEm hko
          by_cases hml : m < k
          · obtain ⟨b, o, rfl, hta⟩ := (HT.out.keep0 HEm.out).addr (by rw [HN.out]; omega)
            obtain ⟨fa, fc, c0, c1, c2, c3, c4, _⟩ := hta m (by rw [HN.out]; omega)
            have HKN : Hid (KeyOk ts m ↔ ((tyAt ts m).kind = 6 → (M ts (tyAt ts m).key).cmp = true)) := Iff.rfl
            have HFm := hid (HAO.out m (by rw [HN.out]; omega)).1.2.2.1
            clear hta
            by_cases h6 : (tyAt ts m).kind = 6
            · obtain ⟨⟨g0, g1, _⟩, _⟩ := HFm.out h6
              obtain ⟨q, hq⟩ : ∃ q : Nat, (tyAt ts m).key = q := ⟨(tyAt ts m).key.toNat, by omega⟩
              have hqk : q < k := by have := HN.out; omega
              have HKN2 : Hid (KeyOk ts m ↔ (M ts q).cmp = true) := by
                refine HKN.out.trans ?_
                rw [hq]
                exact ⟨fun h => h h6, fun h _ => h⟩
              rw [h6] at c0
              rw [hq] at c2
              have K := comparOf_any ts (some ⟨b, o, none⟩) k c HN.out HAO.out (q + 1) q (by omega) hqk wr (HT.out.keep0 HEm.out)
              clear h6 hq g0 g1 HKN HFm
              generalize M ts q = mx at *
              by_cases hx : mx.cmp = true
              · rw [hx] at K
                have HX := hid (HKN2.out.2 hx)
                clear hx
                go_wp2_with fail
                refine K.mono ?_
                clear K
                rintro e w2 ⟨rfl, hE2⟩
                have HE2 := hid (HEm.out.trans hE2)
                clear hE2
                go_wp2_with fail
                go_roundw
                case rel => exact ⟨m + 1, by go_num, by omega, HE2.out, fun i hi => by
                  rcases (by omega : i < m ∨ i = m) with h | rfl
                  · exact HKO.out i h
                  · exact HX.out⟩
                case measure => simp [intOf]; omega
              · have HX := hid (show ¬ Sound ts from fun h => hx (HKN2.out.1 (h.2.2 m (by rw [HN.out]; omega))))
                have hx : mx.cmp = false := by simpa using hx
                rw [hx] at K
                clear hx
                go_wp2_with fail
                refine K.mono ?_
                clear K
                rintro e w2 ⟨rfl, hE2⟩
                have HE2 := hid (HEm.out.trans hE2)
                clear hE2
                go_wp2_with fail
                go_ret
                exact ⟨ret_int (chk_no HX.out).symm, HE2.out⟩
            · have hb : ((tyAt ts m).kind == 6) = false := by simpa using h6
              have HX : Hid (KeyOk ts m) := fun h => absurd h h6
              clear h6 HKN HFm
              go_wp2_with fail
              go_roundw
              case rel => exact ⟨m + 1, by go_num, by omega, HEm.out, fun i hi => by
                rcases (by omega : i < m ∨ i = m) with h | rfl
                · exact HKO.out i h
                · exact HX.out⟩
              case measure => simp [intOf]; omega
          · have HX : Hid (Sound ts) := ⟨by rw [HN.out]; exact h64, HAO.out, fun i hi => HKO.out i (by have := HN.out; omega)⟩
            go_wp2_with fail
            go_ret
            exact ⟨ret_int (chk_yes HX.out).symm, HEm.out⟩
  · have HX : Hid (¬ Sound ts) := fun h => h64 (by rw [← HN.out]; exact h.1)
    go_enter Tryz.func37, Tryz.ntmps37
    go_wp2_with fail
    go_ret
    exact ⟨ret_int (chk_no HX.out).symm, Ext.refl _ _⟩

theorem rbad_any (a : Option Addr) (ts : List Ty) (n c : Nat) (t : Int) (w : World) (hT : Tab w a ts) (hn : ts.length = n) : Calls Tryz.prog 21 #[.slice a n c, .int .i64 t] w (SayPost w (.int .i64 (bad ts t))) := by
  have K := rcheck_any a ts n c w hT hn
  have HN := hid hn
  clear hT hn
  by_cases hs : Sound ts
  · rw [chk_yes hs] at K
    by_cases ht : 0 ≤ t ∧ t < n
    · have HX := hid (bad_ok (t := t) hs (by rw [HN.out]; exact ht))
      obtain ⟨h1, h2⟩ := ht
      have hd1 : decide (t < 0) = false := decide_eq_false (by omega)
      have hd2 : decide ((n : Int) ≤ t) = false := decide_eq_false (by omega)
      clear hs
      go_enter Tryz.func21, Tryz.ntmps21
      go_wp2_with fail
      refine K.mono ?_
      rintro e w2 ⟨rfl, hE2⟩
      have HE2 := hid hE2
      clear hE2 K
      go_wp2_with fail
      go_ret
      exact ⟨ret_int HX.out.symm, HE2.out⟩
    · have HX := hid (bad_arg (t := t) hs (by rw [HN.out]; exact ht))
      clear hs
      rcases (by omega : t < 0 ∨ (0 ≤ t ∧ n ≤ t)) with h | ⟨h, h'⟩
      · clear ht
        go_enter Tryz.func21, Tryz.ntmps21
        go_wp2_with fail
        refine K.mono ?_
        rintro e w2 ⟨rfl, hE2⟩
        have HE2 := hid hE2
        clear hE2 K
        go_wp2_with fail
        go_ret
        exact ⟨ret_int HX.out.symm, HE2.out⟩
      · clear ht
        have hd : decide ((n : Int) ≤ t) = true := decide_eq_true (by omega)
        have hd1 : decide (t < 0) = false := decide_eq_false (by omega)
        go_enter Tryz.func21, Tryz.ntmps21
        go_wp2_with fail
        refine K.mono ?_
        rintro e w2 ⟨rfl, hE2⟩
        have HE2 := hid hE2
        clear hE2 K
        go_wp2_with fail
        go_ret
        exact ⟨ret_int HX.out.symm, HE2.out⟩
  · rw [chk_no hs] at K
    have HX := hid (bad_form (t := t) hs)
    clear hs
    go_enter Tryz.func21, Tryz.ntmps21
    go_wp2_with fail
    refine K.mono ?_
    rintro e w2 ⟨rfl, hE2⟩
    have HE2 := hid hE2
    clear hE2 K
    go_wp2_with fail
    go_ret
    exact ⟨ret_int HX.out.symm, HE2.out⟩

end Go.Proofs.YtbpjmcjjambdkaaGreatDoor.Ty
