/-
  The program's hasher: Mix, fold, floats and texts; no statement is proved here.
-/
import Derived.Test.YtpjcbpgfbhlioaaDoorEqC
namespace Go.Proofs.YtpjcbpgfbhlioaaDoor
open Go.RowKit

theorem mix_any (x : Int) (w : World) : Calls Tryd.prog 10 #[.int .u64 x] w (fun e w' => e = .returned (.int .u64 (mixI x)) ∧ w' = w) := by
  go_enter Tryd.func10, Tryd.ntmps10
  go_wp2_with fail
  go_ret
  exact ⟨rfl, rfl⟩
theorem rmix_any (x : Int) (w : World) : Calls Tryd.prog 11 #[.int .u64 x] w (fun e w' => e = .returned (.int .u64 (mixI x)) ∧ w' = w) := by
  go_enter Tryd.func11, Tryd.ntmps11
  go_wp2_with fail
  go_ret
  exact ⟨rfl, rfl⟩
theorem mix_one : (mixI 1 != 0) = true := by
  decide +kernel
set_option maxRecDepth 100000 in
theorem awake_any (w : World) : Calls Tryd.prog 9 #[] w (SayPost w (.bool true)) := by
  have K1 := mix_any 1
  have K2 := rmix_any 1
  have h0 := mix_one
  generalize mixI 1 = m at *
  have h1 : (m == m) = true := by simp
  go_enter Tryd.func9, Tryd.ntmps9
  go_wp2_with (first | (go_at_call 10; refine met (K1 _) ?_) | (go_at_call 11; refine met (K2 _) ?_) | fail "no arm")
  go_ret
  exact ⟨rfl, Ext.refl _ _⟩

/-! ### the hasher -/

/-- A hasher in memory. -/
def Hsh (w : World) (p : Nat) (tv : Value) (salt sum : Int) : Prop := w.heap[p]? = some (.cells #[tv, .int .u64 salt, .int .u64 sum] 60 (0, 0))
theorem Hsh.c0 {w : World} {p : Nat} {tv : Value} {salt sum : Int} (h : Hsh w p tv salt sum) : w.cell? ⟨p, 0, none⟩ = some tv := by rw [cell_of_row _ _ _ _ _ _ h]; rfl
theorem Hsh.c1 {w : World} {p : Nat} {tv : Value} {salt sum : Int} (h : Hsh w p tv salt sum) : w.cell? ⟨p, 1, none⟩ = some (.int .u64 salt) := by rw [cell_of_row _ _ _ _ _ _ h]; rfl
theorem Hsh.c2 {w : World} {p : Nat} {tv : Value} {salt sum : Int} (h : Hsh w p tv salt sum) : w.cell? ⟨p, 2, none⟩ = some (.int .u64 sum) := by rw [cell_of_row _ _ _ _ _ _ h]; rfl
theorem Hsh.fr {w : World} {p : Nat} {tv : Value} {salt sum : Int} (h : Hsh w p tv salt sum) (j : Nat) : w.frozen? ⟨p, j, none⟩ = false := frozen_of_row _ _ _ _ _ h
theorem Hsh.keep {S : List Nat} {w w' : World} {p : Nat} {tv : Value} {salt sum : Int} (h : Hsh w p tv salt sum) (x : Ext S w w') (hs : p ∉ S) : Hsh w' p tv salt sum := x.keep h hs
theorem Hsh.set {w : World} {p : Nat} {tv : Value} {salt sum : Int} (h : Hsh w p tv salt sum) (s : Int) : Hsh (w.setCell ⟨p, 2, none⟩ (.int .u64 s)) p tv salt s := heap_setCell_same _ _ _ _ _ _ h
theorem Hsh.lt {w : World} {p : Nat} {tv : Value} {salt sum : Int} (h : Hsh w p tv salt sum) : p < w.heap.size := lt_of_heap h

def FoPost (w : World) (p : Nat) (tv : Value) (salt s : Int) (e : Ending) (w' : World) : Prop := e = .returned (.tuple #[]) ∧ Hsh w' p tv salt s ∧ Ext [p] w w'

theorem fold_any (p : Nat) (tv : Value) (salt s x : Int) (w : World) (hH : Hsh w p tv salt s) : Calls Tryd.prog 62 #[.pointer (some ⟨p, 0, none⟩), .int .u64 x] w (FoPost w p tv salt (foldI s x)) := by
  have K := mix_any (bits .xor .u64 s x) w
  have c2 := hH.c2
  have f2 := hH.fr 2
  have HH := hid hH
  have HF : Hid (mixI (bits .xor .u64 s x) = foldI s x) := rfl
  clear hH
  generalize foldI s x = r at *
  generalize mixI (bits .xor .u64 s x) = r2 at *
  go_enter Tryd.func62, Tryd.ntmps62
  go_wp2_with (first | (go_at_call 10; refine met K ?_) | fail "no arm")
  go_end0
  exact ⟨rfl, by rw [← HF.out]; exact HH.out.set _, Ext.setCell _ _ _ _ (by simp)⟩

theorem isnan_any (x : Nat) (w : World) : Calls Tryd.prog 69 #[.float .f64 x] w (fun e w' => e = .returned (.bool (!Op.floatEq .f64 x x)) ∧ w' = w) := by
  have h := fneq_run x x
  generalize Op.floatEq .f64 x x = r at *
  go_enter Tryd.func69, Tryd.ntmps69
  go_wp2_with fail
  go_ret
  exact ⟨rfl, rfl⟩

theorem hfloat_any (p : Nat) (tv : Value) (salt s n : Int) (w : World) (hH : Hsh w p tv salt s) : Calls Tryd.prog 59 #[.pointer (some ⟨p, 0, none⟩), .int .u64 n] w (FoPost w p tv salt (foldI s (fltH salt n))) := by
  have h1 := frombits_run n
  have h2 := feql_run n.toNat 0
  have K := isnan_any n.toNat w
  have c1 := hH.c1
  have KF := fun x => fold_any p tv salt s x w hH
  unfold fltH
  by_cases z : rungOf n.toNat = 0
  · rw [if_pos z]
    rw [(feq_zero n.toNat).2 z] at h2
    have KF0 := KF 0
    clear hH z K KF
    generalize foldI s 0 = r at *
    go_enter Tryd.func59, Tryd.ntmps59
    go_wp2_with (first | (go_at_call 62; refine KF0.mono ?_; clear KF0; rintro e w1 ⟨rfl, hE1⟩) | fail "no arm")
    go_end0
    exact ⟨rfl, hE1⟩
  · rw [if_neg z]
    have hz : Op.floatEq .f64 n.toNat 0 = false := by
      cases hq : Op.floatEq .f64 n.toNat 0
      · rfl
      · exact absurd ((feq_zero _).1 hq) z
    rw [hz] at h2
    by_cases q : rungOf n.toNat ≤ infR
    · rw [if_pos q]
      rw [(feq_self n.toNat).2 q] at K
      have KF0 := KF n
      clear hH z q KF hz
      generalize foldI s n = r at *
      go_enter Tryd.func59, Tryd.ntmps59
      go_wp2_with (first | (go_at_call 69; refine met K ?_) | (go_at_call 62; refine KF0.mono ?_; clear KF0; rintro e w1 ⟨rfl, hE1⟩) | fail "no arm")
      go_end0
      exact ⟨rfl, hE1⟩
    · rw [if_neg q]
      have hq : Op.floatEq .f64 n.toNat n.toNat = false := by
        cases hq : Op.floatEq .f64 n.toNat n.toNat
        · rfl
        · exact absurd ((feq_self _).1 hq) q
      rw [hq] at K
      have KF0 := KF salt
      clear hH z q KF hz hq
      generalize foldI s salt = r at *
      go_enter Tryd.func59, Tryd.ntmps59
      go_wp2_with (first | (go_at_call 69; refine met K ?_) | (go_at_call 62; refine KF0.mono ?_; clear KF0; rintro e w1 ⟨rfl, hE1⟩) | fail "no arm")
      go_end0
      exact ⟨rfl, hE1⟩

set_option maxRecDepth 100000 in
theorem htext_any (p : Nat) (tv : Value) (salt s : Int) (b : ByteArray) (hb : b.size ≤ 140737488351232) (w : World) (hH : Hsh w p tv salt s) : Calls Tryd.prog 60 #[.pointer (some ⟨p, 0, none⟩), .string b] w (FoPost w p tv salt (foldI (txtH s b b.size) b.size)) := by
  have HH := hid hH
  have HF : Hid (∀ k r u x, Hsh u p tv salt (txtH s b k) → r = foldI (txtH s b k) x → Calls Tryd.prog 62 #[.pointer (some ⟨p, 0, none⟩), .int .u64 x] u (FoPost u p tv salt r)) := fun k r u x h hr => by rw [hr]; exact fold_any p tv salt _ x u h
  clear hH
  go_enter Tryd.func60, Tryd.ntmps60
  go_wp2_with fail
  go_loopw [7] (fun q wr => ∃ k : Nat, q = .int .i64 k ∧ k ≤ b.size ∧ Hid (Hsh wr p tv salt (txtH s b k) ∧ Ext [p] w wr)) (fun q _ => (b.size - (intOf q)).toNat)
  case atStart => exact ⟨0, rfl, Nat.zero_le _, hid ⟨HH.out, Ext.refl _ _⟩⟩
  case round =>
    obtain ⟨k, rfl, hk, hR⟩ := hrel
    by_cases hlt : k < b.size
    · have hkn : (k : Int) < b.size := by omega
      have hx : IntKind.u64.wrap (IntKind.u64.wrap ((b[k]'hlt).toNat : Int) + 1) = ((b.data.getD k 0).toNat : Int) + 1 := by
        have h1 : b.data.getD k 0 = b[k]'hlt := by
          show b.data.getD k 0 = b.data[k]'hlt
          have h2 : b.data[k]? = some (b.data[k]'hlt) := Array.getElem?_eq_getElem hlt
          rw [Array.getD_eq_getD_getElem?, h2]; rfl
        rw [h1]
        have := (b[k]'hlt).toNat_lt
        simp only [IntKind.wrap_u64]
        omega
      have K := HF.out k (txtH s b (k + 1)) wr (IntKind.u64.wrap (IntKind.u64.wrap ((b[k]'hlt).toNat : Int) + 1)) hR.out.1 (by rw [hx]; rfl)
      clear hx
      go_wp2_with (first | (go_at_call 62; refine K.mono ?_; clear K; rintro e w1 ⟨rfl, hE1⟩; replace hE1 := hid hE1) | fail "no arm")
      go_roundw
      case rel => exact ⟨k + 1, by go_num, by omega, hid ⟨hE1.out.1, hR.out.2.trans hE1.out.2⟩⟩
      case measure => simp [intOf]; omega
    · have hk2 : k = b.size := by omega
      have K := HF.out k (foldI (txtH s b b.size) b.size) wr b.size hR.out.1 (by rw [hk2])
      have hz : IntKind.u64.wrap (b.size : Int) = b.size := by rw [IntKind.wrap_u64]; omega
      clear hk2
      go_wp2_with (first | (go_at_call 62; refine K.mono ?_; clear K; rintro e w1 ⟨rfl, hE1⟩; replace hE1 := hid hE1) | fail "no arm")
      go_end0
      exact ⟨rfl, hE1.out.1, hR.out.2.trans hE1.out.2⟩

end Go.Proofs.YtpjcbpgfbhlioaaDoor
