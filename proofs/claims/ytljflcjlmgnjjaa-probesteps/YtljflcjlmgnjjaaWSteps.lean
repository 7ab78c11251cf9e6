/-
  The walk through ProbeSteps; no statement is proved here.
-/
import Derived.Test.YtljflcjlmgnjjaaSmall
namespace Go.Proofs.Ytljflcjlmgnjjaa
open Go.RowKit

set_option maxRecDepth 100000 in
set_option maxHeartbeats 2000000 in
theorem stepsWalk (h : Nat) (G i : Int) (w : World) : Calls Try.prog 6 #[.int .u64 h, .int .i64 G, .int .i64 i] w (SayPost w (.bool true)) := by
  have KA := awake_any w
  by_cases hG : GpI G
  · obtain ⟨g, rfl, hg⟩ := hG
    have K1 := groups_any g true (by simp [gpI_nat, hg]) w
    have hpos := hg.pos
    have hle := hg.le
    have K2 := at_ok h g 0 hg hpos w
    rw [pl_zero] at K2
    have he : (h : Int).tmod (g : Int) = ((h % g : Nat) : Int) := by rw [Int.tmod_eq_emod_of_nonneg (by omega)]; norm_cast
    have hm : h % g < g := Nat.mod_lt _ hpos
    by_cases hi : 0 ≤ i ∧ i < g - 1
    · obtain ⟨x, rfl⟩ : ∃ x : Nat, i = x := ⟨i.toNat, by omega⟩
      have hx : x + 1 < g := by omega
      have K3 := at_ok h g x hg (by omega) w
      have K4 := at_ok h g (x + 1) hg hx w
      have hst := pl_step h g x
      have hp1 := pl_lt h hpos x
      have hp2 := pl_lt h hpos (x + 1)
      have hst2 : (((pl h g x : Nat) : Int) + (x : Int) + 1) % (g : Int) = ((pl h g (x + 1) : Nat) : Int) := by
        rw [hst, Int.add_assoc]; norm_cast
      have hxg : ¬ ((g : Int) - 1 ≤ (x : Int)) := by omega
      rw [show ((x + 1 : Nat) : Int) = (x : Int) + 1 from rfl] at K4
      clear hst hg hi
      generalize h % g = r at *
      generalize pl h g x = p at *
      generalize pl h g (x + 1) = q at *
      go_enter Try.func6, Try.ntmps6
      go_wp2_with fail
      refine met KA ?_
      go_wp2_with fail
      refine met K1 ?_
      go_wp2_with fail
      refine met K2 ?_
      clear KA K1 K2
      go_wp2_with fail
      refine met K3 ?_
      go_wp2_with fail
      refine met K4 ?_
      clear K3 K4
      go_wp2
      go_ret
      exact ⟨rfl, Ext.refl _ _⟩
    · clear hg
      have hcase : i < 0 ∨ (¬ i < 0 ∧ (g : Int) - 1 ≤ i) := by omega
      clear hi
      generalize h % g = r at *
      rcases hcase with h0 | ⟨h0, h1⟩
      · go_enter Try.func6, Try.ntmps6
        go_wp2_with fail
        refine met KA ?_
        go_wp2_with fail
        refine met K1 ?_
        go_wp2_with fail
        refine met K2 ?_
        clear KA K1 K2
        go_wp2
        go_ret
        exact ⟨rfl, Ext.refl _ _⟩
      · go_enter Try.func6, Try.ntmps6
        go_wp2_with fail
        refine met KA ?_
        go_wp2_with fail
        refine met K1 ?_
        go_wp2_with fail
        refine met K2 ?_
        clear KA K1 K2
        go_wp2
        go_ret
        exact ⟨rfl, Ext.refl _ _⟩
  · have K1 := groups_any G false (by simp [hG]) w
    clear hG
    go_enter Try.func6, Try.ntmps6
    go_wp2_with fail
    refine met KA ?_
    go_wp2_with fail
    refine met K1 ?_
    go_wp2_with fail
    refine met KA ?_
    clear KA K1
    go_wp2
    go_ret
    exact ⟨rfl, Ext.refl _ _⟩
end Go.Proofs.Ytljflcjlmgnjjaa
