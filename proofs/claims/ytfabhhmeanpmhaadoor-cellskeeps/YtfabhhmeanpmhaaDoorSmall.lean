/-
  The program's small functions on kinds, counts and places; no statement is proved here.
-/
import Derived.Test.YtfabhhmeanpmhaaDoorBase
namespace Go.Proofs.YtfabhhmeanpmhaaDoor
open Go.RowKit

theorem ret_bool {a b : Bool} (h : a = b) : Ending.returned (.bool a) = .returned (.bool b) := by rw [h]
theorem ret_int {k : IntKind} {a b : Int} (h : a = b) : Ending.returned (.int k a) = .returned (.int k b) := by rw [h]

theorem isKind_yes (k : Int) (w : World) (h : 1 ≤ k ∧ k ≤ 10) : Calls Tryd.prog 87 #[.int .i64 k] w fun e w' => e = .returned (.bool true) ∧ w' = w := by
  obtain ⟨h1, h2⟩ := h
  go_enter Tryd.func87, Tryd.ntmps87
  go_wp2
  go_ret
  exact ⟨rfl, rfl⟩
theorem isKind_no (k : Int) (w : World) (h : ¬ (1 ≤ k ∧ k ≤ 10)) : Calls Tryd.prog 87 #[.int .i64 k] w fun e w' => e = .returned (.bool false) ∧ w' = w := by
  rcases (by omega : k < 1 ∨ (1 ≤ k ∧ 10 < k)) with h | ⟨h, h'⟩
  · go_enter Tryd.func87, Tryd.ntmps87
    go_wp2
    go_ret
    exact ⟨rfl, rfl⟩
  · have hd : decide (k ≤ 10) = false := decide_eq_false (by omega)
    go_enter Tryd.func87, Tryd.ntmps87
    go_wp2
    go_ret
    exact ⟨rfl, rfl⟩

theorem isCount_yes (k : Int) (w : World) (h : 1 ≤ k ∧ k ≤ 16) : Calls Tryd.prog 90 #[.int .i64 k] w fun e w' => e = .returned (.bool true) ∧ w' = w := by
  obtain ⟨h1, h2⟩ := h
  go_enter Tryd.func90, Tryd.ntmps90
  go_wp2
  go_ret
  exact ⟨rfl, rfl⟩
theorem isCount_no (k : Int) (w : World) (h : ¬ (1 ≤ k ∧ k ≤ 16)) : Calls Tryd.prog 90 #[.int .i64 k] w fun e w' => e = .returned (.bool false) ∧ w' = w := by
  rcases (by omega : k < 1 ∨ (1 ≤ k ∧ 16 < k)) with h | ⟨h, h'⟩
  · go_enter Tryd.func90, Tryd.ntmps90
    go_wp2
    go_ret
    exact ⟨rfl, rfl⟩
  · have hd : decide (k ≤ 16) = false := decide_eq_false (by omega)
    go_enter Tryd.func90, Tryd.ntmps90
    go_wp2
    go_ret
    exact ⟨rfl, rfl⟩

theorem inside_yes (a : Option Addr) (n c : Nat) (p : Int) (w : World) (h : 0 ≤ p ∧ p < n) : Calls Tryd.prog 68 #[.slice a n c, .int .i64 p] w fun e w' => e = .returned (.bool true) ∧ w' = w := by
  obtain ⟨h1, h2⟩ := h
  go_enter Tryd.func68, Tryd.ntmps68
  go_wp2
  go_ret
  exact ⟨rfl, rfl⟩
theorem inside_no (a : Option Addr) (n c : Nat) (p : Int) (w : World) (h : ¬ (0 ≤ p ∧ p < n)) : Calls Tryd.prog 68 #[.slice a n c, .int .i64 p] w fun e w' => e = .returned (.bool false) ∧ w' = w := by
  rcases (by omega : p < 0 ∨ (0 ≤ p ∧ n ≤ p)) with h | ⟨h, h'⟩
  · go_enter Tryd.func68, Tryd.ntmps68
    go_wp2
    go_ret
    exact ⟨rfl, rfl⟩
  · have hd : decide (p < (n : Int)) = false := decide_eq_false (by omega)
    go_enter Tryd.func68, Tryd.ntmps68
    go_wp2
    go_ret
    exact ⟨rfl, rfl⟩

theorem Tab.kind {w : World} {a : Option Addr} {ts : List Ty} (h : Tab w a ts) {p : Nat} (hp : p < ts.length) : ∃ b o, a = some ⟨b, o, none⟩ ∧ w.cell? ⟨b, o + p * 5, none⟩ = some (.int .i64 (tyAt ts p).kind) := by
  obtain ⟨b, o, h1, h2⟩ := h.addr (by omega)
  obtain ⟨fa, fc, h3⟩ := h2 p hp
  exact ⟨b, o, h1, h3.c0⟩

theorem holdable_yes (a : Option Addr) (ts : List Ty) (n c : Nat) (p : Int) (w : World) (hT : Tab w a ts) (hn : n ≤ ts.length) (h : Within ts n p) : Calls Tryd.prog 89 #[.slice a n c, .int .i64 p] w fun e w' => e = .returned (.bool true) ∧ w' = w := by
  obtain ⟨h1, h2, h3⟩ := h
  obtain ⟨q, rfl⟩ : ∃ q : Nat, p = q := ⟨p.toNat, by omega⟩
  obtain ⟨b, o, rfl, hc⟩ := hT.kind (p := q) (by omega)
  have K := inside_yes (some ⟨b, o, none⟩) n c q w ⟨h1, h2⟩
  have hne : ((tyAt ts q).kind != 10) = true := by simpa using h3
  clear hT hn
  go_enter Tryd.func89, Tryd.ntmps89
  go_wp2_with (go_at_call 68; refine met K ?_)
  go_ret
  exact ⟨rfl, rfl⟩
theorem holdable_no (a : Option Addr) (ts : List Ty) (n c : Nat) (p : Int) (w : World) (hT : Tab w a ts) (hn : n ≤ ts.length) (h : ¬ Within ts n p) : Calls Tryd.prog 89 #[.slice a n c, .int .i64 p] w fun e w' => e = .returned (.bool false) ∧ w' = w := by
  by_cases h1 : 0 ≤ p ∧ p < n
  · have h3 : (tyAt ts p).kind = 10 := by
      by_cases e : (tyAt ts p).kind = 10
      · exact e
      · exact absurd ⟨h1.1, h1.2, e⟩ h
    clear h
    obtain ⟨q, rfl⟩ : ∃ q : Nat, p = q := ⟨p.toNat, by omega⟩
    obtain ⟨b, o, rfl, hc⟩ := hT.kind (p := q) (by omega)
    rw [h3] at hc
    have K := inside_yes (some ⟨b, o, none⟩) n c q w h1
    obtain ⟨h1, h2⟩ := h1
    clear hT hn h3
    go_enter Tryd.func89, Tryd.ntmps89
    go_wp2_with (go_at_call 68; refine met K ?_)
    go_ret
    exact ⟨rfl, rfl⟩
  · have K := inside_no a n c p w h1
    clear h h1 hT
    go_enter Tryd.func89, Tryd.ntmps89
    go_wp2_with (go_at_call 68; refine met K ?_)
    go_ret
    exact ⟨rfl, rfl⟩

def AllPost (w : World) (ts : List Ty) (n : Nat) (fs : List Int) (e : Ending) (w' : World) : Prop := ∃ r : Bool, e = .returned (.bool r) ∧ w' = w ∧ (r = true ↔ ∀ f ∈ fs, Within ts n f)

theorem allHold_any (a fa : Option Addr) (ts : List Ty) (fs : List Int) (n c m fc : Nat) (w : World) (hT : Tab w a ts) (hn : n ≤ ts.length) (hF : Is w fa fs) (hm : fs.length = m) (hm2 : m ≤ 17592186044416) :
    Calls Tryd.prog 91 #[.slice a n c, .slice fa m fc] w (AllPost w ts n fs) := by
  have HT : Hid (Tab w a ts) := hT
  have HF : Hid (Is w fa fs) := hF
  have HM : Hid (fs.length = m) := hm
  clear hT hF hm
  go_enter Tryd.func91, Tryd.ntmps91
  go_wp2
  go_loop [9] (fun q => ∃ k : Nat, q = .int .i64 k ∧ k ≤ m ∧ ∀ j, j < k → Within ts n (fs.getD j 0)) (fun q => (m - (intOf q)).toNat)
  case atStart => exact ⟨0, rfl, Nat.zero_le _, fun j hj => by omega⟩
  case round =>
    obtain ⟨k, rfl, hk, hall⟩ := hrel
    have HA : Hid (∀ j, j < k → Within ts n (fs.getD j 0)) := hall
    clear hall
    by_cases hkm : k < m
    · obtain ⟨b, o, rfl, hc⟩ := HF.out.at_ (by intro h; have := HM.out; rw [h] at this; simp at this; omega)
      have hck := hc k (by rw [HM.out]; exact hkm)
      clear hc
      by_cases hw : Within ts n (fs.getD k 0)
      · have K := holdable_yes a ts n c _ w HT.out hn hw
        have HW : Hid (Within ts n (fs.getD k 0)) := hw
        clear hw
        go_wp2_with (go_at_call 89; refine met K ?_)
        go_round
        case rel => exact ⟨k + 1, by go_num, by omega, fun j hj => by
          rcases (by omega : j < k ∨ j = k) with h | rfl
          · exact HA.out j h
          · exact HW.out⟩
        case measure => simp [intOf]; omega
      · have K := holdable_no a ts n c _ w HT.out hn hw
        have HW : Hid (¬ Within ts n (fs.getD k 0)) := hw
        clear hw
        go_wp2_with (go_at_call 89; refine met K ?_)
        go_ret
        refine ⟨false, rfl, rfl, by simp, fun h => absurd (h _ ?_) HW.out⟩
        have := HM.out
        simp [List.getD, show k < fs.length by omega]
    · go_wp2
      go_ret
      refine ⟨true, rfl, rfl, fun _ f hf => ?_, fun _ => rfl⟩
      obtain ⟨j, hj, rfl⟩ := List.getElem_of_mem hf
      have := HA.out j (by have := HM.out; omega)
      simpa [List.getD, hj] using this

end Go.Proofs.YtfabhhmeanpmhaaDoor
