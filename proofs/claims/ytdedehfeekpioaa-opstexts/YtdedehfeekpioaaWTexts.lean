/-
  OpsTexts and OpsCuts, walked through; their frames are in LawTexts and LawCuts.
-/
import Derived.Test.YtdedehfeekpioaaTextsB
import Derived.Test.YtdedehfeekpioaaAwake
namespace Go.Proofs.Ytdedehfeekpioaa
open Go.RowKit

theorem beqS (s : ByteArray) : (s.toList == s.toList) = true := by simp
set_option maxRecDepth 100000 in
set_option maxHeartbeats 4000000 in
theorem texts_walk (s t : ByteArray) (i j : Int) (w : World) (hs : s.size ≤ 140737488351232) (ht : t.size ≤ 140737488351232) (hi : U i) (hj : U j) :
    Calls Try.prog 4 #[.string s, .string t, .int .u64 i, .int .u64 j] w (SayPost w (.bool true)) := by
  have KA := awake_any w
  have HX : Hid (Ext [] w w) := Ext.refl _ _
  obtain ⟨a, e, hce⟩ : ∃ a e, (if 4096 < s.size + t.size then teV ⟨#[]⟩ 6 else teV (s ++ t) 0) = teV a e := by split <;> exact ⟨_, _, rfl⟩
  obtain ⟨c, g, hcg⟩ : ∃ c g, (if i ≤ j ∧ j ≤ s.size then teV (cutT s i j) 0 else teV ⟨#[]⟩ 5) = teV c g := by split <;> exact ⟨_, _, rfl⟩
  obtain ⟨x, k, hxk⟩ : ∃ x k, (if i < s.size then ueV (byT s i.toNat) 0 else ueV 0 5) = ueV x k := by split <;> exact ⟨_, _, rfl⟩
  have K1 : ∀ u, Calls Try.prog 11 #[.string s, .string t] u (SayPost u (.tuple #[.string a, .int .i64 e])) := fun u => by have := concat_any s t u hs ht; rw [hce] at this; exact this
  have K2 : ∀ u, Calls Try.prog 12 #[.string s, .string t] u (SayPost u (.tuple #[.string a, .int .i64 e])) := fun u => by have := rconcat_any s t u hs ht; rw [hce] at this; exact this
  have K3 : ∀ u, Calls Try.prog 13 #[.string s, .int .u64 i, .int .u64 j] u (SayPost u (.tuple #[.string c, .int .i64 g])) := fun u => by have := slice_any s i j u hs hi hj; rw [hcg] at this; exact this
  have K4 : ∀ u, Calls Try.prog 14 #[.string s, .int .u64 i, .int .u64 j] u (SayPost u (.tuple #[.string c, .int .i64 g])) := fun u => by have := rslice_any s i j u hs hi hj; rw [hcg] at this; exact this
  have K5 : ∀ u, Calls Try.prog 15 #[.string s, .int .u64 i] u (SayPost u (.tuple #[.int .u64 x, .int .i64 k])) := fun u => by have := byte_any s i u hs hi; rw [hxk] at this; exact this
  have K6 : ∀ u, Calls Try.prog 16 #[.string s, .int .u64 i] u (SayPost u (.tuple #[.int .u64 x, .int .i64 k])) := fun u => by have := rbyte_any s i u hs hi; rw [hxk] at this; exact this
  have q1 := beqS a
  have q2 := beqS c
  clear hce hcg hxk hs ht hi hj
  go_enter Try.func4, Try.ntmps4
  go_wp2_with (first
    | (go_at_call 7; refine KA.mono ?_; clear KA; rintro e w1 ⟨rfl, hE⟩; replace HX := hid (HX.out.trans hE); clear hE)
    | (go_at_call 11; refine (K1 _).mono ?_; rintro e w1 ⟨rfl, hE⟩; replace HX := hid (HX.out.trans hE); clear hE)
    | (go_at_call 12; refine (K2 _).mono ?_; rintro e w1 ⟨rfl, hE⟩; replace HX := hid (HX.out.trans hE); clear hE)
    | (go_at_call 13; refine (K3 _).mono ?_; rintro e w1 ⟨rfl, hE⟩; replace HX := hid (HX.out.trans hE); clear hE)
    | (go_at_call 14; refine (K4 _).mono ?_; rintro e w1 ⟨rfl, hE⟩; replace HX := hid (HX.out.trans hE); clear hE)
    | (go_at_call 15; refine (K5 _).mono ?_; rintro e w1 ⟨rfl, hE⟩; replace HX := hid (HX.out.trans hE); clear hE)
    | (go_at_call 16; refine (K6 _).mono ?_; rintro e w1 ⟨rfl, hE⟩; replace HX := hid (HX.out.trans hE); clear hE)
    | fail "no arm")
  go_ret
  exact ⟨rfl, HX.out⟩

theorem cut_head (s t : ByteArray) : cutT (s ++ t) 0 s.size = s := by
  unfold cutT
  apply ByteArray.ext
  simp
theorem cut_tail (s t : ByteArray) : cutT (s ++ t) s.size (s ++ t).size = t := by
  unfold cutT
  apply ByteArray.ext
  rw [Int.toNat_natCast, Int.toNat_natCast]
  have e1 : s.data.extract s.size (s.size + t.size) = #[] := by
    apply Array.eq_empty_of_size_eq_zero
    rw [Array.size_extract]
    have : s.data.size = s.size := rfl
    omega
  have e2 : t.data.extract 0 t.size = t.data := by
    rw [show t.size = t.data.size from rfl]
    simp
  simp [e1, e2]
theorem cut_one (a : ByteArray) (i : Nat) (h : i < a.size) : (cutT a i (i + 1)).size = 1 ∧ byT (cutT a i (i + 1)) 0 = byT a i := by
  have h1 : (cutT a i (i + 1)).data = a.data.extract i (i + 1) := by
    unfold cutT
    rw [show ((i : Int) + 1).toNat = i + 1 by omega, Int.toNat_natCast]
    simp
  have h2 : i < a.data.size := h
  refine ⟨?_, ?_⟩
  · show (cutT a i (i + 1)).data.size = 1
    rw [h1, Array.size_extract]
    omega
  · unfold byT
    rw [h1]
    have h3 : 0 < (a.data.extract i (i + 1)).size := by rw [Array.size_extract]; omega
    unfold Array.getD
    rw [dif_pos h3, dif_pos h2]
    simp
set_option maxRecDepth 100000 in
set_option maxHeartbeats 4000000 in
theorem cuts_walk (s t : ByteArray) (i : Int) (w : World) (hs : s.size ≤ 140737488351232) (ht : t.size ≤ 140737488351232) (hi : U i) :
    Calls Try.prog 5 #[.string s, .string t, .int .u64 i] w (SayPost w (.bool true)) := by
  have KA := awake_any w
  have HX : Hid (Ext [] w w) := Ext.refl _ _
  have K1 := fun u => concat_any s t u hs ht
  have e1 : wrap64 ((s.size : Int) + (t.size : Int)) = (s.size : Int) + (t.size : Int) := by unfold wrap64; omega
  by_cases hq : 4096 < s.size + t.size
  · have hq1 : (4096 : Int) < (s.size : Int) + (t.size : Int) := by omega
    rw [if_pos hq] at K1
    unfold teV at K1
    clear hs ht hi hq
    go_enter Try.func5, Try.ntmps5
    go_wp2_with (first
      | (go_at_call 7; refine KA.mono ?_; clear KA; rintro e w1 ⟨rfl, hE⟩; replace HX := hid (HX.out.trans hE); clear hE)
      | (go_at_call 11; refine (K1 _).mono ?_; rintro e w1 ⟨rfl, hE⟩; replace HX := hid (HX.out.trans hE); clear hE)
      | fail "no arm")
    go_ret
    exact ⟨rfl, HX.out⟩
  · rw [if_neg hq] at K1
    have has : (s ++ t).size = s.size + t.size := by simp
    have K2 := fun u => slice_any (s ++ t) 0 s.size u (by omega) (by unfold U; omega) (by unfold U; omega)
    rw [if_pos (by omega), cut_head] at K2
    have K3 := fun u => slice_any (s ++ t) s.size (s ++ t).size u (by omega) (by unfold U; omega) (by unfold U; omega)
    rw [if_pos (by omega), cut_tail] at K3
    have K4 := fun u => byte_any (s ++ t) i u (by omega) hi
    have e2 : IntKind.u64.wrap (s.size : Int) = (s.size : Int) := by rw [wrapU]; unfold um; omega
    have e3 : IntKind.u64.wrap ((s ++ t).size : Int) = ((s ++ t).size : Int) := by rw [wrapU]; unfold um; omega
    have q1 : (!(s.toList == s.toList)) = false := by simp
    have q2 : (!(t.toList == t.toList)) = false := by simp
    unfold teV at K1 K2 K3
    have hsz : (s ++ t).size ≤ 4096 := by omega
    generalize s ++ t = a at *
    by_cases hb : i < a.size
    · rw [if_pos hb] at K4
      obtain ⟨i, rfl⟩ : ∃ n : Nat, i = n := ⟨i.toNat, by unfold U at hi; omega⟩
      have hin : i < a.size := by omega
      obtain ⟨o1, o2⟩ := cut_one a i hin
      have K5 := fun u => slice_any a i (i + 1) u (by omega) hi (by unfold U at *; omega)
      rw [if_pos (by omega)] at K5
      have hc0 : 0 < (cutT a i (i + 1)).size := by omega
      have HB := byT_at (cutT a i (i + 1)) 0 hc0
      rw [o2] at HB
      simp only [Int.toNat_natCast] at K4
      have e4 : IntKind.u64.wrap ((i : Int) + 1) = (i : Int) + 1 := by rw [wrapU]; unfold um; omega
      unfold teV at K5
      unfold ueV at K4
      generalize cutT a i (i + 1) = c at *
      have hb2 : (byT a i == byT a i) = true := by simp
      generalize byT a i = bv at *
      clear hs ht hi hq hin o2 hsz has
      go_enter Try.func5, Try.ntmps5
      go_wp2_with (first
        | (go_at_call 7; refine KA.mono ?_; clear KA; rintro e w1 ⟨rfl, hE⟩; replace HX := hid (HX.out.trans hE); clear hE)
        | (go_at_call 11; refine (K1 _).mono ?_; clear K1; rintro e w1 ⟨rfl, hE⟩; replace HX := hid (HX.out.trans hE); clear hE)
        | (go_at_call 13; (with_reducible refine Calls.mono (K2 _) ?_); clear K2; rintro e w1 ⟨rfl, hE⟩; replace HX := hid (HX.out.trans hE); clear hE)
        | (go_at_call 13; (with_reducible refine Calls.mono (K3 _) ?_); clear K3; rintro e w1 ⟨rfl, hE⟩; replace HX := hid (HX.out.trans hE); clear hE)
        | (go_at_call 15; refine (K4 _).mono ?_; clear K4; rintro e w1 ⟨rfl, hE⟩; replace HX := hid (HX.out.trans hE); clear hE)
        | (go_at_call 13; (with_reducible refine Calls.mono (K5 _) ?_); clear K5; rintro e w1 ⟨rfl, hE⟩; replace HX := hid (HX.out.trans hE); clear hE)
        | fail "no arm")
      go_ret
      exact ⟨rfl, HX.out⟩
    · rw [if_neg hb] at K4
      unfold ueV at K4
      have hb1 : (a.size : Int) ≤ i := by omega
      have hb2 : decide (i < (a.size : Int)) = false := by simpa using hb
      clear hs ht hi hq hsz has hb
      go_enter Try.func5, Try.ntmps5
      go_wp2_with (first
        | (go_at_call 7; refine KA.mono ?_; clear KA; rintro e w1 ⟨rfl, hE⟩; replace HX := hid (HX.out.trans hE); clear hE)
        | (go_at_call 11; refine (K1 _).mono ?_; clear K1; rintro e w1 ⟨rfl, hE⟩; replace HX := hid (HX.out.trans hE); clear hE)
        | (go_at_call 13; (with_reducible refine Calls.mono (K2 _) ?_); clear K2; rintro e w1 ⟨rfl, hE⟩; replace HX := hid (HX.out.trans hE); clear hE)
        | (go_at_call 13; (with_reducible refine Calls.mono (K3 _) ?_); clear K3; rintro e w1 ⟨rfl, hE⟩; replace HX := hid (HX.out.trans hE); clear hE)
        | (go_at_call 15; refine (K4 _).mono ?_; clear K4; rintro e w1 ⟨rfl, hE⟩; replace HX := hid (HX.out.trans hE); clear hE)
        | fail "no arm")
      go_ret
      exact ⟨rfl, HX.out⟩
end Go.Proofs.Ytdedehfeekpioaa
