/-
  The reference's All; no statement is proved here.
-/
import Derived.Test.YtbjplfbplkjibaaRShade
import Derived.Test.YtbjplfbplkjibaaLive
namespace Go.Proofs.Ytbjplfbplkjibaa
open Go.RowKit

/-- All live nodes in a list of its own. -/
def RaPost (w : World) (l : List Nat) (e : Ending) (w' : World) : Prop := ∃ a c, e = .returned (.slice a l.length c) ∧ Is w' a (li l) ∧ Ext [] w w'

set_option maxHeartbeats 2000000 in
theorem rall_any (p : Nat) (G : Gs) (B : Nat → Prop) (w : World) (h : Rg w p G B) (hI : Iv G) : Calls Try.prog 11 #[.pointer (some ⟨p, 0, none⟩)] w (RaPost w (lives G)) := by
  have hlen := hI.len
  have HF0 : Hid (∃ a c, ∀ W, Ext [] w W → W.cell? ⟨p, 0, none⟩ = some (.slice a G.ns.length c)) := by
    obtain ⟨vn, vl, KV, SV, h, _⟩ := h
    obtain ⟨a, c, rfl, _⟩ := own_slice h.row
    exact ⟨a, c, fun W hW => hW.cell h.flds.1 (by simp)⟩
  obtain ⟨a, c, hf0⟩ := HF0.out
  have HF := hid hf0
  have HL : Hid (livK G G.ns.length = lives G) := rfl
  have HK : Hid (∀ W i, Ext [] w W → Calls Try.prog 28 #[.pointer (some ⟨p, 0, none⟩), .int .i64 (i : Nat)] W fun e w' => e = .returned (.bool (decide (lvN G i))) ∧ w' = W) := fun W i hE => by
    have := rlive_any p G B (i : Nat) W (h.keep0 hE) hI.len hI.col
    rw [lvB_nat] at this
    exact this
  have HS := hid (livK_succ G)
  have HLl := hid (livK_len G)
  clear h hI HF0 hf0
  generalize G.ns.length = n at *
  go_enter Try.func11, Try.ntmps11
  go_wp2_with fail
  go_loopw [4, 3] (fun q b wr => ∃ (k : Nat), q = .int .i64 k ∧ k ≤ n ∧ (∃ ad d, b = .slice ad (livK G k).length d) ∧ wr.ownsRow w.heap.size 3 1 b (livK G k).length ((li (livK G k)).map (Value.int .i64)) ∧ Ext [] w wr) (fun q _ _ => (n - (intOf q)).toNat)
  case atStart => exact ⟨0, rfl, Nat.zero_le _, ⟨_, _, rfl⟩, own_nil _ _ _ _, Ext.refl _ _⟩
  case round =>
    obtain ⟨k, rfl, hk, ⟨ad, d, rfl⟩, ho, hE⟩ := hrel
    have f0 := HF.out wr hE
    have HO := hid ho
    have HE := hid hE
    clear ho hE
    by_cases hlt : k < n
    · have K := HK.out wr k HE.out
      have HSk := hid (HS.out k)
      have hkl := HLl.out k
      by_cases hlv : lvN G k
      · rw [decide_eq_true hlv] at K
        have hS2 := HSk.out
        rw [if_pos hlv] at hS2
        obtain ⟨i3, hi3, hz3, hs3, hy3⟩ := info_parts info3
        have hEa := Ext.alloc [] wr (.cells #[.int .i64 (k : Int)] 3)
        have hsz := HE.out.size
        obtain ⟨v', w2, hr, ho2, hg2, _⟩ := run_append_own (P := Try.prog) (wr.alloc (.cells #[.int .i64 (k : Int)] 3)) w.heap.size 28 28 3 i3 _ 1 8 Try.underlying28 hi3 hz3 hs3 hy3 rfl (by decide) (.slice ad (livK G k).length d) _ _ (own_keep0 HO.out hEa) ⟨wr.heap.size, 0, none⟩ 1 1 [.int .i64 (k : Int)] rfl (fun j u hu => by rw [Addr.add_lit, cell_of_row _ _ _ _ _ _ (heap_alloc_new wr _), Nat.zero_add, ← hu]; simp) (by simp [Value.oneCell']) (by unfold maxLen; omega) (by omega) (by simp; omega)
        have hO2 : w2.ownsRow w.heap.size 3 1 v' (livK G (k + 1)).length ((li (livK G (k + 1))).map (Value.int .i64)) := by rw [hS2]; simpa [li] using ho2
        have HO2 := hid hO2
        have HE2 : Hid (Ext [] w w2) := (HE.out.trans hEa).on (ext_grown hg2) (fun x hx => (own_lt HO.out x (by simpa using hx)).1)
        obtain ⟨a2, c2, hv2, _⟩ := own_slice hO2
        subst hv2
        clear ho2 hO2 hg2 hi3 hz3 hs3 hy3 hEa hS2 hlv HO HE
        generalize (livK G k).length = m at *
        go_wp2_with (first | (go_at_call 28; refine met K ?_) | (at_builtin; refine wpList_append_run rfl _ _ 28 rfl _ _ _ rfl rfl hr ?_))
        go_roundw
        case rel => exact ⟨k + 1, by go_num, by omega, ⟨_, _, rfl⟩, HO2.out, HE2.out⟩
        case measure => simp [intOf]; omega
      · rw [decide_eq_false hlv] at K
        have hS2 := HSk.out
        rw [if_neg hlv, List.append_nil] at hS2
        have HO2 : Hid (wr.ownsRow w.heap.size 3 1 (.slice ad (livK G k).length d) (livK G (k + 1)).length ((li (livK G (k + 1))).map (Value.int .i64))) := by
          show World.ownsRow _ _ _ _ _ _ _
          rw [hS2]; exact HO.out
        have HV : Hid (∃ ad' d', Value.slice ad (livK G k).length d = .slice ad' (livK G (k + 1)).length d') := by rw [hS2]; exact ⟨_, _, rfl⟩
        clear HO hS2 hlv HSk
        generalize (livK G k).length = m at *
        go_wp2_with (go_at_call 28; refine met K ?_)
        go_roundw
        case rel => exact ⟨k + 1, by go_num, by omega, HV.out, HO2.out, HE.out⟩
        case measure => simp [intOf]; omega
    · obtain rfl : k = n := by omega
      have HP : Hid (RaPost w (lives G) (.returned (.slice ad (livK G k).length d)) wr) := by
        have ho := HO.out
        rw [HL.out] at ho ⊢
        exact ⟨ad, d, rfl, own_vs ho, HE.out⟩
      clear HO HE HL
      generalize (livK G k).length = m at *
      go_wp2_with fail
      go_ret
      exact HP.out

end Go.Proofs.Ytbjplfbplkjibaa
