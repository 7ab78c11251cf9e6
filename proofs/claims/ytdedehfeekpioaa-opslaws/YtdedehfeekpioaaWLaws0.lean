/-
  OpsLaws where b is 0, walked through; its frame is in LawLaws.
-/
import Derived.Test.YtdedehfeekpioaaAwake
import Derived.Deep.Cut
namespace Go.Proofs.Ytdedehfeekpioaa
open Go.RowKit

theorem wU (n : Int) : U (IntKind.u64.wrap n) := by rw [wrapU]; exact um_U _
theorem beqT {x y : Int} (h : x = y) : (x == y) = true := by simpa using h

set_option maxRecDepth 100000 in
set_option maxHeartbeats 16000000 in
theorem laws_walk0 (a b c : Int) (w : World) (ha : U a) (hb : U b) (hc : U c) (hz1 : (b != 0) = false) :
    Calls Try.prog 6 #[.int .u64 a, .int .u64 b, .int .u64 c] w (SayPost w (.bool true)) := by
  have KA := awake_any w
  have u0 : U 0 := by unfold U; omega
  have u1 : U 1 := by unfold U; omega
  have u2 : U 2 := by unfold U; omega
  have K1 : ∀ (x y : Int) (u : World), U x → U y → Calls Try.prog 17 #[.int .i64 1, .int .u64 x, .int .u64 y] u (SayPost u (.int .u64 (ai 1 x y))) := fun x y u hx hy => do_any 1 x y u (by omega) (by omega) hx hy (fun _ => by omega)
  have K2 : ∀ (x y : Int) (u : World), U x → U y → Calls Try.prog 17 #[.int .i64 2, .int .u64 x, .int .u64 y] u (SayPost u (.int .u64 (ai 2 x y))) := fun x y u hx hy => do_any 2 x y u (by omega) (by omega) hx hy (fun _ => by omega)
  have K3 : ∀ (x y : Int) (u : World), U x → U y → Calls Try.prog 17 #[.int .i64 3, .int .u64 x, .int .u64 y] u (SayPost u (.int .u64 (ai 3 x y))) := fun x y u hx hy => do_any 3 x y u (by omega) (by omega) hx hy (fun _ => by omega)
  have K4 : ∀ (x y : Int) (u : World), U x → U y → y ≠ 0 → Calls Try.prog 17 #[.int .i64 4, .int .u64 x, .int .u64 y] u (SayPost u (.int .u64 (ai 4 x y))) := fun x y u hx hy hz => do_any 4 x y u (by omega) (by omega) hx hy (fun _ => hz)
  have K5 : ∀ (x y : Int) (u : World), U x → U y → y ≠ 0 → Calls Try.prog 17 #[.int .i64 5, .int .u64 x, .int .u64 y] u (SayPost u (.int .u64 (ai 5 x y))) := fun x y u hx hy hz => do_any 5 x y u (by omega) (by omega) hx hy (fun _ => hz)
  have K6 : ∀ (x y : Int) (u : World), U x → U y → Calls Try.prog 17 #[.int .i64 6, .int .u64 x, .int .u64 y] u (SayPost u (.int .u64 (ai 6 x y))) := fun x y u hx hy => do_any 6 x y u (by omega) (by omega) hx hy (fun _ => by omega)
  have K7 : ∀ (x y : Int) (u : World), U x → U y → Calls Try.prog 17 #[.int .i64 7, .int .u64 x, .int .u64 y] u (SayPost u (.int .u64 (ai 7 x y))) := fun x y u hx hy => do_any 7 x y u (by omega) (by omega) hx hy (fun _ => by omega)
  have K8 : ∀ (x y : Int) (u : World), U x → U y → Calls Try.prog 17 #[.int .i64 8, .int .u64 x, .int .u64 y] u (SayPost u (.int .u64 (ai 8 x y))) := fun x y u hx hy => do_any 8 x y u (by omega) (by omega) hx hy (fun _ => by omega)
  have K9 : ∀ (x y : Int) (u : World), U x → U y → Calls Try.prog 17 #[.int .i64 9, .int .u64 x, .int .u64 y] u (SayPost u (.int .u64 (ai 9 x y))) := fun x y u hx hy => do_any 9 x y u (by omega) (by omega) hx hy (fun _ => by omega)
  have K10 : ∀ (x y : Int) (u : World), U x → U y → Calls Try.prog 17 #[.int .i64 10, .int .u64 x, .int .u64 y] u (SayPost u (.int .u64 (ai 10 x y))) := fun x y u hx hy => do_any 10 x y u (by omega) (by omega) hx hy (fun _ => by omega)
  have Laa : ∀ u, Calls Try.prog 17 #[.int .i64 11, .int .u64 a, .int .u64 a] u (SayPost u (.int .u64 (ai 11 a a))) := fun u => do_any 11 a a u (by omega) (by omega) ha ha (by omega)
  have Lab : ∀ u, Calls Try.prog 17 #[.int .i64 11, .int .u64 a, .int .u64 b] u (SayPost u (.int .u64 (ai 11 a b))) := fun u => do_any 11 a b u (by omega) (by omega) ha hb (by omega)
  have Lba : ∀ u, Calls Try.prog 17 #[.int .i64 11, .int .u64 b, .int .u64 a] u (SayPost u (.int .u64 (ai 11 b a))) := fun u => do_any 11 b a u (by omega) (by omega) hb ha (by omega)
  have Lbc : ∀ u, Calls Try.prog 17 #[.int .i64 11, .int .u64 b, .int .u64 c] u (SayPost u (.int .u64 (ai 11 b c))) := fun u => do_any 11 b c u (by omega) (by omega) hb hc (by omega)
  have Lac : ∀ u, Calls Try.prog 17 #[.int .i64 11, .int .u64 a, .int .u64 c] u (SayPost u (.int .u64 (ai 11 a c))) := fun u => do_any 11 a c u (by omega) (by omega) ha hc (by omega)
  have g1 : (ai 1 (ai 3 (ai 4 a b) b) (ai 5 a b) != a) = false := by simp [l_div ha]
  have g2 := beqT (l_comm (a := a) (b := b))
  have g3 := beqT (l_dist (a := a) (b := b) (c := c))
  have g4 := beqT (l_sub (a := a) (b := b))
  have g5 := beqT (l_bits (a := a) (b := b))
  have g6 := beqT (l_xor (a := a) (b := b))
  have g7 := beqT (l_shl (a := a) (c := c))
  have g8 : (ai 9 a c == ai 9 a (IntKind.u64.wrap (c + 64))) = true := beqT (by rw [wrapU]; exact l_wrap)
  have g9 := beqT (l_shr ha)
  have HU := hid (And.intro ha (And.intro hb hc))
  clear ha hb hc u0 u1 u2
  have HX : Hid (Ext [] w w) := Ext.refl _ _
  go_enter Try.func6, Try.ntmps6
  go_upto_region 4 with (go_at_call 7; refine KA.mono ?_; clear KA; rintro e w1 ⟨rfl, hE⟩; replace HX := hid (HX.out.trans hE); clear hE)
  clear g1
  go_upto_region 8 with (first
    | (go_at_call 17; (with_reducible refine Calls.mono (K1 _ _ _ (by (first | exact HU.out.1 | exact HU.out.2.1 | exact HU.out.2.2 | exact ai_U _ _ _ | exact wU _ | (unfold U; omega))) (by (first | exact HU.out.1 | exact HU.out.2.1 | exact HU.out.2.2 | exact ai_U _ _ _ | exact wU _ | (unfold U; omega)))) ?_); rintro e w1 ⟨rfl, hE⟩; replace HX := hid (HX.out.trans hE); clear hE)
    | (go_at_call 17; (with_reducible refine Calls.mono (K2 _ _ _ (by (first | exact HU.out.1 | exact HU.out.2.1 | exact HU.out.2.2 | exact ai_U _ _ _ | exact wU _ | (unfold U; omega))) (by (first | exact HU.out.1 | exact HU.out.2.1 | exact HU.out.2.2 | exact ai_U _ _ _ | exact wU _ | (unfold U; omega)))) ?_); rintro e w1 ⟨rfl, hE⟩; replace HX := hid (HX.out.trans hE); clear hE)
    | (go_at_call 17; (with_reducible refine Calls.mono (K3 _ _ _ (by (first | exact HU.out.1 | exact HU.out.2.1 | exact HU.out.2.2 | exact ai_U _ _ _ | exact wU _ | (unfold U; omega))) (by (first | exact HU.out.1 | exact HU.out.2.1 | exact HU.out.2.2 | exact ai_U _ _ _ | exact wU _ | (unfold U; omega)))) ?_); rintro e w1 ⟨rfl, hE⟩; replace HX := hid (HX.out.trans hE); clear hE)
    | (go_at_call 17; (with_reducible refine Calls.mono (K4 _ _ _ (by (first | exact HU.out.1 | exact HU.out.2.1 | exact HU.out.2.2 | exact ai_U _ _ _ | exact wU _ | (unfold U; omega))) (by (first | exact HU.out.1 | exact HU.out.2.1 | exact HU.out.2.2 | exact ai_U _ _ _ | exact wU _ | (unfold U; omega))) (by assumption)) ?_); rintro e w1 ⟨rfl, hE⟩; replace HX := hid (HX.out.trans hE); clear hE)
    | (go_at_call 17; (with_reducible refine Calls.mono (K5 _ _ _ (by (first | exact HU.out.1 | exact HU.out.2.1 | exact HU.out.2.2 | exact ai_U _ _ _ | exact wU _ | (unfold U; omega))) (by (first | exact HU.out.1 | exact HU.out.2.1 | exact HU.out.2.2 | exact ai_U _ _ _ | exact wU _ | (unfold U; omega))) (by assumption)) ?_); rintro e w1 ⟨rfl, hE⟩; replace HX := hid (HX.out.trans hE); clear hE)
    | (go_at_call 17; (with_reducible refine Calls.mono (K6 _ _ _ (by (first | exact HU.out.1 | exact HU.out.2.1 | exact HU.out.2.2 | exact ai_U _ _ _ | exact wU _ | (unfold U; omega))) (by (first | exact HU.out.1 | exact HU.out.2.1 | exact HU.out.2.2 | exact ai_U _ _ _ | exact wU _ | (unfold U; omega)))) ?_); rintro e w1 ⟨rfl, hE⟩; replace HX := hid (HX.out.trans hE); clear hE)
    | (go_at_call 17; (with_reducible refine Calls.mono (K7 _ _ _ (by (first | exact HU.out.1 | exact HU.out.2.1 | exact HU.out.2.2 | exact ai_U _ _ _ | exact wU _ | (unfold U; omega))) (by (first | exact HU.out.1 | exact HU.out.2.1 | exact HU.out.2.2 | exact ai_U _ _ _ | exact wU _ | (unfold U; omega)))) ?_); rintro e w1 ⟨rfl, hE⟩; replace HX := hid (HX.out.trans hE); clear hE)
    | (go_at_call 17; (with_reducible refine Calls.mono (K8 _ _ _ (by (first | exact HU.out.1 | exact HU.out.2.1 | exact HU.out.2.2 | exact ai_U _ _ _ | exact wU _ | (unfold U; omega))) (by (first | exact HU.out.1 | exact HU.out.2.1 | exact HU.out.2.2 | exact ai_U _ _ _ | exact wU _ | (unfold U; omega)))) ?_); rintro e w1 ⟨rfl, hE⟩; replace HX := hid (HX.out.trans hE); clear hE)
    | (go_at_call 17; (with_reducible refine Calls.mono (K9 _ _ _ (by (first | exact HU.out.1 | exact HU.out.2.1 | exact HU.out.2.2 | exact ai_U _ _ _ | exact wU _ | (unfold U; omega))) (by (first | exact HU.out.1 | exact HU.out.2.1 | exact HU.out.2.2 | exact ai_U _ _ _ | exact wU _ | (unfold U; omega)))) ?_); rintro e w1 ⟨rfl, hE⟩; replace HX := hid (HX.out.trans hE); clear hE)
    | (go_at_call 17; (with_reducible refine Calls.mono (K10 _ _ _ (by (first | exact HU.out.1 | exact HU.out.2.1 | exact HU.out.2.2 | exact ai_U _ _ _ | exact wU _ | (unfold U; omega))) (by (first | exact HU.out.1 | exact HU.out.2.1 | exact HU.out.2.2 | exact ai_U _ _ _ | exact wU _ | (unfold U; omega)))) ?_); rintro e w1 ⟨rfl, hE⟩; replace HX := hid (HX.out.trans hE); clear hE)
    | fail "no arm")
  clear K1 K2 K3 K4 K5 K6 K7 K8 K9 K10 g2 g3 g4 g5 g6 g7 g8 g9
  rw [l_lt, if_neg (by omega)] at Laa
  by_cases hab : a = b
  · subst hab
    rw [l_lt, if_neg (by omega)] at Lab
    clear Lba Lbc Lac
    go_wp2_with (first
      | (go_at_call 17; (with_reducible refine Calls.mono (Laa _) ?_); rintro e w1 ⟨rfl, hE⟩; replace HX := hid (HX.out.trans hE); clear hE)
      | (go_at_call 17; (with_reducible refine Calls.mono (Lab _) ?_); rintro e w1 ⟨rfl, hE⟩; replace HX := hid (HX.out.trans hE); clear hE)
      | (go_at_call 17; (with_reducible refine Calls.mono (Lba _) ?_); rintro e w1 ⟨rfl, hE⟩; replace HX := hid (HX.out.trans hE); clear hE)
      | (go_at_call 17; (with_reducible refine Calls.mono (Lbc _) ?_); rintro e w1 ⟨rfl, hE⟩; replace HX := hid (HX.out.trans hE); clear hE)
      | (go_at_call 17; (with_reducible refine Calls.mono (Lac _) ?_); rintro e w1 ⟨rfl, hE⟩; replace HX := hid (HX.out.trans hE); clear hE)
      | fail "no arm")
    go_ret
    exact ⟨rfl, HX.out⟩
  · have hab1 : (a == b) = false := by simpa using hab
    have hsn : sg a ≠ sg b := fun h => hab (sg_inj HU.out.1 HU.out.2.1 h)
    by_cases h1 : sg a < sg b
    · rw [l_lt, if_pos h1] at Lab
      rw [l_lt, if_neg (by omega)] at Lba
      by_cases h2 : sg b < sg c
      · rw [l_lt, if_pos h2] at Lbc
        rw [l_lt, if_pos (by omega)] at Lac
        clear h1 h2 hsn hab
        go_wp2_with (first
          | (go_at_call 17; (with_reducible refine Calls.mono (Laa _) ?_); rintro e w1 ⟨rfl, hE⟩; replace HX := hid (HX.out.trans hE); clear hE)
          | (go_at_call 17; (with_reducible refine Calls.mono (Lab _) ?_); rintro e w1 ⟨rfl, hE⟩; replace HX := hid (HX.out.trans hE); clear hE)
          | (go_at_call 17; (with_reducible refine Calls.mono (Lba _) ?_); rintro e w1 ⟨rfl, hE⟩; replace HX := hid (HX.out.trans hE); clear hE)
          | (go_at_call 17; (with_reducible refine Calls.mono (Lbc _) ?_); rintro e w1 ⟨rfl, hE⟩; replace HX := hid (HX.out.trans hE); clear hE)
          | (go_at_call 17; (with_reducible refine Calls.mono (Lac _) ?_); rintro e w1 ⟨rfl, hE⟩; replace HX := hid (HX.out.trans hE); clear hE)
          | fail "no arm")
        go_ret
        exact ⟨rfl, HX.out⟩
      · rw [l_lt, if_neg h2] at Lbc
        clear h1 h2 hsn hab Lac
        go_wp2_with (first
          | (go_at_call 17; (with_reducible refine Calls.mono (Laa _) ?_); rintro e w1 ⟨rfl, hE⟩; replace HX := hid (HX.out.trans hE); clear hE)
          | (go_at_call 17; (with_reducible refine Calls.mono (Lab _) ?_); rintro e w1 ⟨rfl, hE⟩; replace HX := hid (HX.out.trans hE); clear hE)
          | (go_at_call 17; (with_reducible refine Calls.mono (Lba _) ?_); rintro e w1 ⟨rfl, hE⟩; replace HX := hid (HX.out.trans hE); clear hE)
          | (go_at_call 17; (with_reducible refine Calls.mono (Lbc _) ?_); rintro e w1 ⟨rfl, hE⟩; replace HX := hid (HX.out.trans hE); clear hE)
          | (go_at_call 17; (with_reducible refine Calls.mono (Lac _) ?_); rintro e w1 ⟨rfl, hE⟩; replace HX := hid (HX.out.trans hE); clear hE)
          | fail "no arm")
        go_ret
        exact ⟨rfl, HX.out⟩
    · rw [l_lt, if_neg h1] at Lab
      rw [l_lt, if_pos (by omega)] at Lba
      clear h1 hsn hab Lac Lbc
      go_wp2_with (first
        | (go_at_call 17; (with_reducible refine Calls.mono (Laa _) ?_); rintro e w1 ⟨rfl, hE⟩; replace HX := hid (HX.out.trans hE); clear hE)
        | (go_at_call 17; (with_reducible refine Calls.mono (Lab _) ?_); rintro e w1 ⟨rfl, hE⟩; replace HX := hid (HX.out.trans hE); clear hE)
        | (go_at_call 17; (with_reducible refine Calls.mono (Lba _) ?_); rintro e w1 ⟨rfl, hE⟩; replace HX := hid (HX.out.trans hE); clear hE)
        | (go_at_call 17; (with_reducible refine Calls.mono (Lbc _) ?_); rintro e w1 ⟨rfl, hE⟩; replace HX := hid (HX.out.trans hE); clear hE)
        | (go_at_call 17; (with_reducible refine Calls.mono (Lac _) ?_); rintro e w1 ⟨rfl, hE⟩; replace HX := hid (HX.out.trans hE); clear hE)
        | fail "no arm")
      go_ret
      exact ⟨rfl, HX.out⟩
end Go.Proofs.Ytdedehfeekpioaa
