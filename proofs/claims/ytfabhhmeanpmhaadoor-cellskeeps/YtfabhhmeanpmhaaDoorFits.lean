/-
  Which cells have only what their kind names; no statement is proved here.
-/
import Derived.Test.YtfabhhmeanpmhaaDoorClone
import Derived.Test.YtfabhhmeanpmhaaDoorRefF
namespace Go.Proofs.YtfabhhmeanpmhaaDoor
open Go.RowKit

def Fits (k n : Int) (s : ByteArray) (t : Int) (bl : Nat) : Prop :=
  (k ≠ 4 → s = ⟨#[]⟩) ∧ (k ≠ 7 → t = 0) ∧ (t = 0 → bl = 0) ∧ (k = 1 → n ≤ 1) ∧ (k = 4 → n = 0 ∧ s.size ≤ 4096) ∧ (k = 7 → n = 0) ∧ (k = 5 ∨ k = 6 ∨ k = 10 → n < 2147483648)

def Leaf (k : Int) : Prop := k = 1 ∨ k = 2 ∨ k = 3 ∨ k = 4 ∨ k = 5 ∨ k = 6 ∨ k = 7 ∨ k = 10

theorem toList_ne {s : ByteArray} (h : s ≠ ⟨#[]⟩) : (s.toList == []) = false := by
  simp only [beq_eq_false_iff_ne, ne_eq]
  intro e
  rw [ByteArray.toList_eq] at e
  exact h (ByteArray.ext (Array.toList_inj.mp (by simpa using e)))

set_option maxRecDepth 100000 in
set_option maxHeartbeats 4000000 in
theorem fits_any (k n : Int) (s : ByteArray) (t : Int) (ba : Option Addr) (bl bc : Nat) (w : World) (hk : Leaf k) :
    Calls Tryd.prog 50 #[.int .i64 k, .agg #[.int .u64 n, .string s, .int .i64 t, .slice ba bl bc]] w (TestPost w (Fits k n s t bl)) := by
  by_cases k4 : k = 4
  · subst k4
    by_cases ht : t = 0
    · subst ht
      by_cases hb : bl = 0
      · subst hb
        by_cases hn : n = 0
        · subst hn
          by_cases hz : (s.size : Int) ≤ 4096
          · have hF : Hid (Fits 4 0 s 0 0) := ⟨by simp, by simp, by simp, by simp, fun _ => ⟨rfl, by omega⟩, by simp, by simp⟩
            go_enter Tryd.func50, Tryd.ntmps50
            go_wp2
            go_ret
            exact test_true hF.out (Ext.alloc _ _ _)
          · have hF : Hid (¬ Fits 4 0 s 0 0) := fun h => hz (by have := (h.2.2.2.2.1 rfl).2; omega)
            go_enter Tryd.func50, Tryd.ntmps50
            go_wp2
            go_ret
            exact test_false hF.out (Ext.alloc _ _ _)
        · have hF : Hid (¬ Fits 4 n s 0 0) := fun h => hn (h.2.2.2.2.1 rfl).1
          have h1 : (n == 0) = false := by simpa using hn
          go_enter Tryd.func50, Tryd.ntmps50
          go_wp2
          go_ret
          exact test_false hF.out (Ext.alloc _ _ _)
      · have hF : Hid (¬ Fits 4 n s 0 bl) := fun h => hb (h.2.2.1 rfl)
        have h1 : ((bl : Int) == 0) = false := by simp; omega
        go_enter Tryd.func50, Tryd.ntmps50
        go_wp2
        go_ret
        exact test_false hF.out (Ext.alloc _ _ _)
    · have hF : Hid (¬ Fits 4 n s t bl) := fun h => ht (h.2.1 (by omega))
      have h1 : (t == 0) = false := by simpa using ht
      go_enter Tryd.func50, Tryd.ntmps50
      go_wp2
      go_ret
      exact test_false hF.out (Ext.alloc _ _ _)
  · by_cases hs : s = ⟨#[]⟩
    · subst hs
      have k4b : (k == 4) = false := by simpa using k4
      by_cases k7 : k = 7
      · subst k7
        by_cases hn : n = 0
        · subst hn
          by_cases ht : t = 0
          · subst ht
            by_cases hb : bl = 0
            · subst hb
              have hF : Hid (Fits 7 0 ⟨#[]⟩ 0 0) := ⟨by simp, by simp, by simp, by simp, by simp, by simp, by simp⟩
              go_enter Tryd.func50, Tryd.ntmps50
              go_wp2
              go_ret
              exact test_true hF.out (Ext.alloc _ _ _)
            · have hF : Hid (¬ Fits 7 0 ⟨#[]⟩ 0 bl) := fun h => hb (h.2.2.1 rfl)
              have h1 : ((bl : Int) == 0) = false := by simp; omega
              go_enter Tryd.func50, Tryd.ntmps50
              go_wp2
              go_ret
              exact test_false hF.out (Ext.alloc _ _ _)
          · have hF : Hid (Fits 7 0 ⟨#[]⟩ t bl) := ⟨by simp, by simp, fun h => absurd h ht, by simp, by simp, by simp, by simp⟩
            have h1 : (t == 0) = false := by simpa using ht
            go_enter Tryd.func50, Tryd.ntmps50
            go_wp2
            go_ret
            exact test_true hF.out (Ext.alloc _ _ _)
        · have hF : Hid (¬ Fits 7 n ⟨#[]⟩ t bl) := fun h => hn (h.2.2.2.2.2.1 rfl)
          have h0 : (n == 0) = false := by simpa using hn
          by_cases ht : t = 0
          · subst ht
            by_cases hb : bl = 0
            · subst hb
              go_enter Tryd.func50, Tryd.ntmps50
              go_wp2
              go_ret
              exact test_false hF.out (Ext.alloc _ _ _)
            · have h1 : ((bl : Int) == 0) = false := by simp; omega
              go_enter Tryd.func50, Tryd.ntmps50
              go_wp2
              go_ret
              exact test_false hF.out (Ext.alloc _ _ _)
          · have h1 : (t == 0) = false := by simpa using ht
            go_enter Tryd.func50, Tryd.ntmps50
            go_wp2
            go_ret
            exact test_false hF.out (Ext.alloc _ _ _)
      · have k7b : (k == 7) = false := by simpa using k7
        by_cases ht : t = 0
        · subst ht
          by_cases hb : bl = 0
          · subst hb
            rcases (by unfold Leaf at hk; omega : k = 1 ∨ k = 2 ∨ k = 3 ∨ (k = 5 ∨ k = 6 ∨ k = 10)) with rfl | rfl | rfl | hk2
            · by_cases hn : n ≤ 1
              · have hF : Hid (Fits 1 n ⟨#[]⟩ 0 0) := ⟨by simp, by simp, by simp, fun _ => hn, by simp, by simp, by simp⟩
                go_enter Tryd.func50, Tryd.ntmps50
                go_wp2
                go_ret
                exact test_true hF.out (Ext.alloc _ _ _)
              · have hF : Hid (¬ Fits 1 n ⟨#[]⟩ 0 0) := fun h => hn (h.2.2.2.1 rfl)
                go_enter Tryd.func50, Tryd.ntmps50
                go_wp2
                go_ret
                exact test_false hF.out (Ext.alloc _ _ _)
            · have hF : Hid (Fits 2 n ⟨#[]⟩ 0 0) := ⟨by simp, by simp, by simp, by simp, by simp, by simp, by simp⟩
              go_enter Tryd.func50, Tryd.ntmps50
              go_wp2
              go_ret
              exact test_true hF.out (Ext.alloc _ _ _)
            · have hF : Hid (Fits 3 n ⟨#[]⟩ 0 0) := ⟨by simp, by simp, by simp, by simp, by simp, by simp, by simp⟩
              go_enter Tryd.func50, Tryd.ntmps50
              go_wp2
              go_ret
              exact test_true hF.out (Ext.alloc _ _ _)
            · by_cases hn : n < 2147483648
              · have hF : Hid (Fits k n ⟨#[]⟩ 0 0) := ⟨by simp, by simp, by simp, by omega, by omega, by omega, fun _ => hn⟩
                rcases hk2 with rfl | rfl | rfl
                all_goals
                  go_enter Tryd.func50, Tryd.ntmps50
                  go_wp2
                  go_ret
                  exact test_true hF.out (Ext.alloc _ _ _)
              · have hF : Hid (¬ Fits k n ⟨#[]⟩ 0 0) := fun h => hn (h.2.2.2.2.2.2 hk2)
                rcases hk2 with rfl | rfl | rfl
                all_goals
                  go_enter Tryd.func50, Tryd.ntmps50
                  go_wp2
                  go_ret
                  exact test_false hF.out (Ext.alloc _ _ _)
          · have hF : Hid (¬ Fits k n ⟨#[]⟩ 0 bl) := fun h => hb (h.2.2.1 rfl)
            have h1 : ((bl : Int) == 0) = false := by simp; omega
            clear hk
            go_enter Tryd.func50, Tryd.ntmps50
            go_wp2
            go_ret
            exact test_false hF.out (Ext.alloc _ _ _)
        · have hF : Hid (¬ Fits k n ⟨#[]⟩ t bl) := fun h => ht (h.2.1 k7)
          have h1 : (t == 0) = false := by simpa using ht
          clear hk
          go_enter Tryd.func50, Tryd.ntmps50
          go_wp2
          go_ret
          exact test_false hF.out (Ext.alloc _ _ _)
    · have hF : Hid (¬ Fits k n s t bl) := fun h => hs (h.1 k4)
      have h1 := toList_ne hs
      have h2 : (k == 4) = false := by simpa using k4
      clear hk hs
      go_enter Tryd.func50, Tryd.ntmps50
      go_wp2
      go_ret
      exact test_false hF.out (Ext.alloc _ _ _)

/-- May an interface hold it? -/
def Boxable (ts : List Ty) (n : Int) : Prop := 1 ≤ n ∧ n ≤ ts.length ∧ (tyAt ts (n - 1)).kind ≠ 7 ∧ (tyAt ts (n - 1)).kind ≠ 10

set_option maxRecDepth 100000 in
theorem boxable_any (a : Option Addr) (ts : List Ty) (n c : Nat) (p : Int) (w : World) (hT : Tab w a ts) (hn : ts.length = n) : Calls Tryd.prog 51 #[.slice a n c, .int .i64 p] w (TestPost w (Boxable ts p)) := by
  by_cases h1 : p < 1
  · have hF : Hid (¬ Boxable ts p) := fun h => by have := h.1; omega
    clear hT
    go_enter Tryd.func51, Tryd.ntmps51
    go_wp2
    go_ret
    exact test_false hF.out (Ext.refl _ _)
  · by_cases h2 : (n : Int) < p
    · have hF : Hid (¬ Boxable ts p) := fun h => by have := h.2.1; omega
      clear hT
      go_enter Tryd.func51, Tryd.ntmps51
      go_wp2
      go_ret
      exact test_false hF.out (Ext.refl _ _)
    · obtain ⟨q, rfl⟩ : ∃ q : Nat, p = (q : Int) + 1 := ⟨(p - 1).toNat, by omega⟩
      obtain ⟨b, o, rfl, hat⟩ := hT.addr (by omega)
      obtain ⟨fa, fc, hty⟩ := hat q (by omega)
      have c0 := hty.c0
      have hB : Hid (Boxable ts ((q : Int) + 1) ↔ (tyAt ts q).kind ≠ 7 ∧ (tyAt ts q).kind ≠ 10) := by
        show _ ↔ _
        rw [Boxable, show (q : Int) + 1 - 1 = q by omega]
        exact ⟨fun h => h.2.2, fun h => ⟨by omega, by omega, h⟩⟩
      have e1 : IntKind.wrap .i64 ((q : Int) + 1 - 1) = q := by rw [IntKind.wrap_i64]; have := hT.len; omega
      have h3 : q < n := by omega
      have hl := hT.len
      clear hT hat hty
      generalize (tyAt ts q).kind = k at *
      by_cases k7 : k = 7
      · have hF : Hid (¬ Boxable ts ((q : Int) + 1)) := fun h => (hB.out.1 h).1 k7
        subst k7
        go_enter Tryd.func51, Tryd.ntmps51
        go_wp2
        go_ret
        exact test_false hF.out (Ext.refl _ _)
      · have h7 : (k != 7) = true := by simpa using k7
        by_cases k10 : k = 10
        · have hF : Hid (¬ Boxable ts ((q : Int) + 1)) := fun h => (hB.out.1 h).2 k10
          subst k10
          go_enter Tryd.func51, Tryd.ntmps51
          go_wp2
          go_ret
          exact test_false hF.out (Ext.refl _ _)
        · have hF : Hid (Boxable ts ((q : Int) + 1)) := hB.out.2 ⟨k7, k10⟩
          have h10 : (k != 10) = true := by simpa using k10
          go_enter Tryd.func51, Tryd.ntmps51
          go_wp2
          go_ret
          exact test_true hF.out (Ext.refl _ _)

end Go.Proofs.YtfabhhmeanpmhaaDoor
