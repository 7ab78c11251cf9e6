/-
  The reference's test of one cell; no statement is proved here.
-/
import Derived.Test.YtfabhhmeanpmhaaDoorSound
namespace Go.Proofs.YtfabhhmeanpmhaaDoor
open Go.RowKit

structure CellOk (ts : List Ty) (k n : Int) (s : ByteArray) (t : Int) (bl : Nat) (OK : Prop) : Prop where
  fit : Fits k n s t bl
  box : t ≠ 0 → Boxable ts t ∧ OK

set_option maxRecDepth 100000 in
set_option maxHeartbeats 2000000 in
theorem rcell_any (ts : List Ty) (ta : Option Addr) (tn tc : Nat) (htn : ts.length = tn) (k n : Int) (s : ByteArray) (t : Int) (ba : Option Addr) (bl bc : Nat) (w : World) (hT : Tab w ta ts) (hk : Leaf k) (OK : Prop)
    (hS : ∀ q : Nat, t = (q : Int) + 1 → q < tn → ∀ u, Ext [] w u → Calls Tryd.prog 30 #[.slice ta tn tc, .int .i64 q, .slice ba bl bc] u (TestPost u OK)) :
    Calls Tryd.prog 54 #[.slice ta tn tc, .int .i64 k, .agg #[.int .u64 n, .string s, .int .i64 t, .slice ba bl bc]] w (TestPost w (CellOk ts k n s t bl OK)) := by
  by_cases k4 : k = 4
  · subst k4
    clear hS hT hk
    by_cases hn : n = 0
    · subst hn
      by_cases ht : t = 0
      · subst ht
        by_cases hb : bl = 0
        · subst hb
          by_cases hz : (s.size : Int) ≤ 4096
          · have hF : Hid (CellOk ts 4 0 s 0 0 OK) := ⟨⟨by simp, by simp, by simp, by simp, fun _ => ⟨rfl, by omega⟩, by simp, by simp⟩, fun h => absurd rfl h⟩
            go_enter Tryd.func54, Tryd.ntmps54
            go_wp2
            go_ret
            exact test_true hF.out (Ext.alloc _ _ _)
          · have hF : Hid (¬ (CellOk ts 4 0 s 0 0 OK)) := fun h => hz (by have := (h.1.2.2.2.2.1 rfl).2; omega)
            go_enter Tryd.func54, Tryd.ntmps54
            go_wp2
            go_ret
            exact test_false hF.out (Ext.alloc _ _ _)
        · have hF : Hid (¬ (CellOk ts 4 0 s 0 bl OK)) := fun h => hb (h.1.2.2.1 rfl)
          have h1 : ((bl : Int) == 0) = false := by simp; omega
          go_enter Tryd.func54, Tryd.ntmps54
          go_wp2
          go_ret
          exact test_false hF.out (Ext.alloc _ _ _)
      · have hF : Hid (¬ (CellOk ts 4 0 s t bl OK)) := fun h => ht (h.1.2.1 (by omega))
        have h1 : (t == 0) = false := by simpa using ht
        go_enter Tryd.func54, Tryd.ntmps54
        go_wp2
        go_ret
        exact test_false hF.out (Ext.alloc _ _ _)
    · have hF : Hid (¬ (CellOk ts 4 n s t bl OK)) := fun h => hn (h.1.2.2.2.2.1 rfl).1
      have h1 : (n == 0) = false := by simpa using hn
      go_enter Tryd.func54, Tryd.ntmps54
      go_wp2
      go_ret
      exact test_false hF.out (Ext.alloc _ _ _)
  · have k4b : (k == 4) = false := by simpa using k4
    by_cases k7 : k = 7
    · subst k7
      by_cases hn : n = 0
      · subst hn
        by_cases hs : s = ⟨#[]⟩
        · subst hs
          by_cases ht0 : t < 0
          · have hF : Hid (¬ (CellOk ts 7 0 ⟨#[]⟩ t bl OK)) := fun h => by have := (h.2 (by omega)).1.1; omega
            clear hS hT
            go_enter Tryd.func54, Tryd.ntmps54
            go_wp2
            go_ret
            exact test_false hF.out (Ext.alloc _ _ _)
          · by_cases ht1 : (tn : Int) < t
            · have hF : Hid (¬ (CellOk ts 7 0 ⟨#[]⟩ t bl OK)) := fun h => by have := (h.2 (by omega)).1.2.1; omega
              clear hS hT
              go_enter Tryd.func54, Tryd.ntmps54
              go_wp2
              go_ret
              exact test_false hF.out (Ext.alloc _ _ _)
            · by_cases ht : t = 0
              · subst ht
                clear hS hT
                by_cases hb : bl = 0
                · subst hb
                  have hF : Hid (CellOk ts 7 0 ⟨#[]⟩ 0 0 OK) := ⟨⟨by simp, by simp, by simp, by simp, by simp, by simp, by simp⟩, fun h => absurd rfl h⟩
                  go_enter Tryd.func54, Tryd.ntmps54
                  go_wp2
                  go_ret
                  exact test_true hF.out (Ext.alloc _ _ _)
                · have hF : Hid (¬ (CellOk ts 7 0 ⟨#[]⟩ 0 bl OK)) := fun h => hb (h.1.2.2.1 rfl)
                  have h1 : ((bl : Int) == 0) = false := by simp; omega
                  go_enter Tryd.func54, Tryd.ntmps54
                  go_wp2
                  go_ret
                  exact test_false hF.out (Ext.alloc _ _ _)
              · obtain ⟨q, hq⟩ : ∃ q : Nat, t = (q : Int) + 1 := ⟨(t - 1).toNat, by omega⟩
                have hqn : q < tn := by omega
                have h1 : (t == 0) = false := by simpa using ht
                have KS := hS q hq hqn
                obtain ⟨b, o, rfl, hat⟩ := hT.addr (by omega)
                obtain ⟨fa, fc, hty⟩ := hat q (by omega)
                have c0 := (hty.keep0 (Ext.alloc [] w (.cells #[.int .u64 0, .string ⟨#[]⟩, .int .i64 t, .slice ba bl bc] 49))).c0
                have hl := hT.len
                have e1 : IntKind.wrap .i64 (t - 1) = q := by rw [IntKind.wrap_i64]; omega
                have HB : Hid (Boxable ts t ↔ (tyAt ts q).kind ≠ 7 ∧ (tyAt ts q).kind ≠ 10) := by
                  show _ ↔ _
                  rw [Boxable, show t - 1 = (q : Int) by omega]
                  exact ⟨fun h => h.2.2, fun h => ⟨by omega, by omega, h⟩⟩
                have HFit : Hid (Fits 7 0 ⟨#[]⟩ t bl) := ⟨by simp, by simp, fun h => absurd h ht, by simp, by simp, by simp, by simp⟩
                have Ht := hid ht
                clear hS hT hat hty hq ht
                generalize (tyAt ts q).kind = kd at *
                by_cases d7 : kd = 7
                · have hF : Hid (¬ (CellOk ts 7 0 ⟨#[]⟩ t bl OK)) := fun h => (HB.out.1 (h.2 Ht.out).1).1 d7
                  subst d7
                  clear KS
                  go_enter Tryd.func54, Tryd.ntmps54
                  go_wp2
                  go_ret
                  exact test_false hF.out (Ext.alloc _ _ _)
                · have d7b : (kd != 7) = true := by simpa using d7
                  by_cases d10 : kd = 10
                  · have hF : Hid (¬ (CellOk ts 7 0 ⟨#[]⟩ t bl OK)) := fun h => (HB.out.1 (h.2 Ht.out).1).2 d10
                    subst d10
                    clear KS
                    go_enter Tryd.func54, Tryd.ntmps54
                    go_wp2
                    go_ret
                    exact test_false hF.out (Ext.alloc _ _ _)
                  · have d10b : (kd != 10) = true := by simpa using d10
                    have HBx : Hid (Boxable ts t) := HB.out.2 ⟨d7, d10⟩
                    clear d7 d10
                    go_enter Tryd.func54, Tryd.ntmps54
                    go_wp2_with (go_at_call 30; refine (KS _ (Ext.alloc _ _ _)).mono ?_; rintro e w2 ⟨r, rfl, hE2, hr⟩)
                    go_ret
                    exact ⟨r, rfl, (Ext.alloc _ _ _).trans hE2, hr.trans ⟨fun h => ⟨HFit.out, fun _ => ⟨HBx.out, h⟩⟩, fun h => (h.2 Ht.out).2⟩⟩
        · have hF : Hid (¬ (CellOk ts 7 0 s t bl OK)) := fun h => hs (h.1.1 (by omega))
          have h1 := toList_ne hs
          clear hS hT hs
          go_enter Tryd.func54, Tryd.ntmps54
          go_wp2
          go_ret
          exact test_false hF.out (Ext.alloc _ _ _)
      · have hF : Hid (¬ (CellOk ts 7 n s t bl OK)) := fun h => hn (h.1.2.2.2.2.2.1 rfl)
        have h1 : (n == 0) = false := by simpa using hn
        have h2 : (n != 0) = true := by simpa using hn
        clear hS hT
        go_enter Tryd.func54, Tryd.ntmps54
        go_wp2
        go_ret
        exact test_false hF.out (Ext.alloc _ _ _)
    · have k7b : (k == 7) = false := by simpa using k7
      clear hS hT
      by_cases hs : s = ⟨#[]⟩
      · subst hs
        by_cases ht : t = 0
        · subst ht
          by_cases hb : bl = 0
          · subst hb
            rcases (by unfold Leaf at hk; omega : k = 1 ∨ k = 2 ∨ k = 3 ∨ (k = 5 ∨ k = 6 ∨ k = 10)) with rfl | rfl | rfl | hk2
            · by_cases hn : n < 2
              · have hF : Hid (CellOk ts 1 n ⟨#[]⟩ 0 0 OK) := ⟨⟨by simp, by simp, by simp, fun _ => by omega, by simp, by simp, by simp⟩, fun h => absurd rfl h⟩
                go_enter Tryd.func54, Tryd.ntmps54
                go_wp2
                go_ret
                exact test_true hF.out (Ext.alloc _ _ _)
              · have hF : Hid (¬ (CellOk ts 1 n ⟨#[]⟩ 0 0 OK)) := fun h => hn (by have := h.1.2.2.2.1 rfl; omega)
                go_enter Tryd.func54, Tryd.ntmps54
                go_wp2
                go_ret
                exact test_false hF.out (Ext.alloc _ _ _)
            · have hF : Hid (CellOk ts 2 n ⟨#[]⟩ 0 0 OK) := ⟨⟨by simp, by simp, by simp, by simp, by simp, by simp, by simp⟩, fun h => absurd rfl h⟩
              go_enter Tryd.func54, Tryd.ntmps54
              go_wp2
              go_ret
              exact test_true hF.out (Ext.alloc _ _ _)
            · have hF : Hid (CellOk ts 3 n ⟨#[]⟩ 0 0 OK) := ⟨⟨by simp, by simp, by simp, by simp, by simp, by simp, by simp⟩, fun h => absurd rfl h⟩
              go_enter Tryd.func54, Tryd.ntmps54
              go_wp2
              go_ret
              exact test_true hF.out (Ext.alloc _ _ _)
            · by_cases hn : n < 2147483648
              · have hF : Hid (CellOk ts k n ⟨#[]⟩ 0 0 OK) := ⟨⟨by simp, by simp, by simp, by omega, by omega, by omega, fun _ => hn⟩, fun h => absurd rfl h⟩
                rcases hk2 with rfl | rfl | rfl
                all_goals
                  go_enter Tryd.func54, Tryd.ntmps54
                  go_wp2
                  go_ret
                  exact test_true hF.out (Ext.alloc _ _ _)
              · have hF : Hid (¬ (CellOk ts k n ⟨#[]⟩ 0 0 OK)) := fun h => hn (h.1.2.2.2.2.2.2 hk2)
                rcases hk2 with rfl | rfl | rfl
                all_goals
                  go_enter Tryd.func54, Tryd.ntmps54
                  go_wp2
                  go_ret
                  exact test_false hF.out (Ext.alloc _ _ _)
          · have hF : Hid (¬ (CellOk ts k n ⟨#[]⟩ 0 bl OK)) := fun h => hb (h.1.2.2.1 rfl)
            have h1 : (0 : Int) < (bl : Int) := by omega
            clear hk
            go_enter Tryd.func54, Tryd.ntmps54
            go_wp2
            go_ret
            exact test_false hF.out (Ext.alloc _ _ _)
        · have hF : Hid (¬ (CellOk ts k n ⟨#[]⟩ t bl OK)) := fun h => ht (h.1.2.1 k7)
          have h1 : (t == 0) = false := by simpa using ht
          have h2 : (t != 0) = true := by simpa using ht
          clear hk
          go_enter Tryd.func54, Tryd.ntmps54
          go_wp2
          go_ret
          exact test_false hF.out (Ext.alloc _ _ _)
      · have hF : Hid (¬ (CellOk ts k n s t bl OK)) := fun h => hs (h.1.1 k4)
        have h1 := toList_ne hs
        clear hk hs
        go_enter Tryd.func54, Tryd.ntmps54
        go_wp2
        go_ret
        exact test_false hF.out (Ext.alloc _ _ _)

end Go.Proofs.YtfabhhmeanpmhaaDoor
