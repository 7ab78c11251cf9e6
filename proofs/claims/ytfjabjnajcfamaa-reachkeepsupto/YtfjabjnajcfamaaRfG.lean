/-
  The reference's Way; no statement is proved here.
-/
import Derived.Test.YtfjabjnajcfamaaFar
import Derived.Test.YtfjabjnajcfamaaRfC
namespace Go.Proofs.Ytfjabjnajcfamaa
open Go.RowKit

set_option maxRecDepth 100000 in
theorem rway_bad (a : Option Addr) (n c : Nat) (ra : Option Addr) (rn rc : Nat) (x : Int) (M : List (List Int)) (R : List Int) (w : World) (hN : Nt w a M) (hn : M.length = n) (hR : Is w ra R) (hrn : R.length = rn) (hrb : rn ≤ 1048576) (h : errB M R [x] ≠ 0) :
    Calls Try.prog 15 #[.slice a n c, .slice ra rn rc, .int .i64 x] w (BadPost w (errB M R [x])) := by
  obtain ⟨a1, c1, w1, a2, c2, w2, hr1, hr2, hI, hE⟩ := roots_to ra rn rc R x w hR hrn hrb
  have K := rbad_any a n c a2 (rn + 1) c2 M (R ++ [x]) w2 (hN.keep0 hE) hn hI (by simp [hrn]) (by omega)
  rw [errB_app] at K
  have hne : (errB M R [x] != 0) = true := by simpa using h
  have HE := hid hE
  generalize errB M R [x] = er at *
  clear hN hn hR hrn h hE hI
  go_enter Try.func15, Try.ntmps15
  go_wp2_with (first | (at_builtin; refine wpList_append_run rfl _ _ 23 rfl (.slice (some ⟨w.heap.size, 0, none⟩) 0 0) (.slice ra rn rc) _ rfl rfl hr1 ?_) | (at_builtin; refine wpList_append_run rfl _ _ 23 rfl (.slice a1 rn c1) (.slice (some ⟨w1.heap.size, 0, none⟩) 1 1) _ rfl rfl hr2 ?_) | (go_at_call 30; refine met K ?_))
  go_ret2
  exact ⟨rfl, HE.out⟩

/-- The row of distances. -/
def Fr (w : World) (g n : Nat) (W : World) (F : List Int) : Prop := Ext [] w W ∧ w.heap.size ≤ g ∧ F.length = n ∧ W.heap[g]? = some (.cells (F.map (Value.int .i64)).toArray 3 (0, 0))

theorem Fr.cell {w : World} {g n : Nat} {W : World} {F : List Int} (h : Fr w g n W F) {x : Nat} (hx : x < n) : W.cell? ⟨g, x, none⟩ = some (.int .i64 (fa F x)) := by
  obtain ⟨_, _, hl, hg⟩ := h
  rw [cell_of_row _ _ _ _ _ _ hg]
  simp [fa, show x < F.length by omega]
theorem Fr.froz {w : World} {g n : Nat} {W : World} {F : List Int} (h : Fr w g n W F) (x : Nat) : W.frozen? ⟨g, x, none⟩ = false := frozen_of_row _ _ _ _ _ h.2.2.2
theorem Fr.set {w : World} {g n : Nat} {W : World} {F : List Int} (h : Fr w g n W F) (x : Nat) (v : Int) : Fr w g n (W.setCell ⟨g, x, none⟩ (.int .i64 v)) (F.set x v) := by
  obtain ⟨h1, h2, h3, h4⟩ := h
  refine ⟨h1.on (Ext.setCell [g] W ⟨g, x, none⟩ (.int .i64 v) (by simp)) (by simp; exact h2), h2, by simpa using h3, ?_⟩
  rw [set_row h4, List.map_set, List.setIfInBounds_toArray]
theorem Fr.keep0 {w : World} {g n : Nat} {W W' : World} {F : List Int} (h : Fr w g n W F) (e : Ext [] W W') : Fr w g n W' F := ⟨h.1.trans e, h.2.1, h.2.2.1, e.keep h.2.2.2 (by simp)⟩

/-- The numbers below k are -1. -/
def fil1 (n k : Nat) : List Int := List.replicate k (-1) ++ List.replicate (n - k) 0
theorem fil1_set (n k : Nat) (h : k < n) : (fil1 n k).set k (-1) = fil1 n (k + 1) := by
  apply List.ext_getElem (by simp [fil1]; omega)
  intro i h1 h2
  simp only [fil1, List.length_set, List.length_append, List.length_replicate] at h1
  rw [List.getElem_set]
  by_cases e : k = i
  · subst e; simp [fil1]
  · rw [if_neg e]
    by_cases hi : i < k
    · simp [fil1, hi, show i < k + 1 by omega]
    · simp [fil1, List.getElem_append, hi, show ¬ i < k + 1 by omega]
theorem fo_start (N : List (List Nat)) (t : Nat) (h : t < N.length) : Fo N t ((List.replicate N.length (-1)).set t 0) := by
  have hl : t < (List.replicate N.length (-1 : Int)).length := by simpa using h
  have hf : ∀ x, x < N.length → fa (List.replicate N.length (-1 : Int)) x = -1 := fun x hx => by simp [fa, hx]
  have hn0 : nn (List.replicate N.length (-1 : Int)) = 0 := by simp [nn]
  have hn1 : nn ((List.replicate N.length (-1 : Int)).set t 0) = 1 := by
    rw [nn_set hl (by omega), hn0, hf t h]; rfl
  refine ⟨by simp, h, by rw [fa_set hl, if_pos rfl], fun x hx => ?_, fun x hx => ?_⟩
  · rw [fa_set hl]
    by_cases e : t = x
    · subst e; rw [if_pos rfl]; exact .inr ⟨by omega, [t], .nil, by simp⟩
    · rw [if_neg e, hf x hx]; exact .inl rfl
  · rw [fa_set hl, hn1]
    by_cases e : t = x
    · rw [if_pos e]; omega
    · rw [if_neg e, hf x hx]; omega

end Go.Proofs.Ytfjabjnajcfamaa
