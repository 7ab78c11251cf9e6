/-
  Tables as they lie in memory, and the small functions on their places; no statement is proved here.
-/
import Derived.Test.YtkknadkcpndnaaaDoorIter
import Derived.Test.YtkknadkcpndnaaaDoorPIter
namespace Go.Proofs.YtkknadkcpndnaaaDoor
open Go.RowKit
open Pr (Gp GpI sq pl)

attribute [local go_sem] Oper.semAt_some

theorem info23 : (Tryd.prog.info? 23).map (fun i => (i.zero, i.size, i.bytes)) = some (some (.int .u64 0), 1, 8) := by kernel_rfl

/-! ### words in memory -/
def vw (T : List Nat) : List Value := T.map fun x => Value.int .u64 (x : Nat)
theorem vw_len (T : List Nat) : (vw T).length = T.length := by simp [vw]
theorem vw_at (T : List Nat) {j : Nat} (h : j < T.length) : (vw T)[j]? = some (.int .u64 (T.getD j 0 : Nat)) := by simp [vw, h]
theorem vw_one (T : List Nat) : ∀ u ∈ vw T, u.oneCell' = true := by
  intro u hu
  obtain ⟨x, _, rfl⟩ := List.mem_map.1 hu
  rfl
theorem vw_append (A B : List Nat) : vw (A ++ B) = vw A ++ vw B := by simp [vw]
/-- A slice of words, wherever it lies. -/
def Wd (w : World) (a : Option Addr) (T : List Nat) : Prop := Vs w a (vw T)
theorem Wd.keep0 {w w' : World} {a : Option Addr} {T : List Nat} (h : Wd w a T) (e : Ext [] w w') : Wd w' a T := Vs.keep0 h e
theorem Wd.keep {S : List Nat} {w w' : World} {a : Option Addr} {T : List Nat} (h : Wd w a T) (e : Ext S w w') (hs : ∀ ad, a = some ad → ad.block ∉ S) : Wd w' a T := Vs.keep h e hs
theorem Wd.at_ {w : World} {a : Option Addr} {T : List Nat} (h : Wd w a T) (h0 : T ≠ []) : ∃ b o, a = some ⟨b, o, none⟩ ∧ ∀ j, j < T.length → w.cell? ⟨b, o + j, none⟩ = some (.int .u64 (T.getD j 0 : Nat)) := by
  rcases h with h | ⟨b, o, h, hc⟩
  · simp [vw] at h; exact absurd h h0
  · exact ⟨b, o, h, fun j hj => by rw [hc j (by rw [vw_len]; exact hj), vw_at T hj]⟩
/-- The whole row of a table of one's own, at the head of the block g. -/
def Tw (w : World) (g : Nat) (T : List Nat) : Prop := ∃ cs, w.heap[g]? = some (.cells cs 23 (0, 0)) ∧ ∀ j, j < T.length → cs[j]? = some (.int .u64 (T.getD j 0 : Nat))
theorem Tw.lt {w : World} {g : Nat} {T : List Nat} (h : Tw w g T) : g < w.heap.size := by obtain ⟨cs, h, _⟩ := h; exact lt_of_heap h
theorem Tw.cell {w : World} {g : Nat} {T : List Nat} (h : Tw w g T) {j : Nat} (hj : j < T.length) : w.cell? ⟨g, j, none⟩ = some (.int .u64 (T.getD j 0 : Nat)) := by
  obtain ⟨cs, h1, h2⟩ := h
  rw [cell_of_row _ _ _ _ _ _ h1, h2 j hj]
theorem Tw.wd {w : World} {g : Nat} {T : List Nat} (h : Tw w g T) : Wd w (some ⟨g, 0, none⟩) T :=
  .inr ⟨g, 0, rfl, fun j hj => by rw [vw_len] at hj; rw [Nat.zero_add, h.cell hj, vw_at T hj]⟩
theorem Tw.keep {S : List Nat} {w w' : World} {g : Nat} {T : List Nat} (h : Tw w g T) (e : Ext S w w') (hs : g ∉ S) : Tw w' g T := by
  obtain ⟨cs, h1, h2⟩ := h
  exact ⟨cs, e.keep h1 hs, h2⟩
theorem Tw.keep0 {w w' : World} {g : Nat} {T : List Nat} (h : Tw w g T) (e : Ext [] w w') : Tw w' g T := h.keep e (by simp)
theorem Tw.frozen {w : World} {g : Nat} {T : List Nat} (h : Tw w g T) (j : Nat) : w.frozen? ⟨g, j, none⟩ = false := by
  obtain ⟨cs, h1, _⟩ := h
  exact frozen_of_row w g j cs 23 h1
theorem getD_set {T : List Nat} {k x j : Nat} (hj : j < T.length) : (T.set k x).getD j 0 = if j = k then x else T.getD j 0 := by
  simp only [List.getD_eq_getElem?_getD, List.getElem?_set]
  split
  · rename_i h; subst h; simp [hj]
  · rename_i h; rw [if_neg (fun e => h e.symm)]
theorem Tw.set {w : World} {g : Nat} {T : List Nat} (h : Tw w g T) (k x : Nat) (hk : k < T.length) : Tw (w.setCell ⟨g, k, none⟩ (.int .u64 (x : Nat))) g (T.set k x) := by
  obtain ⟨cs, h1, h2⟩ := h
  refine ⟨cs.setIfInBounds k (.int .u64 (x : Nat)), heap_setCell_same w g k cs 23 _ h1, fun j hj => ?_⟩
  rw [List.length_set] at hj
  rw [getD_set hj, Array.getElem?_setIfInBounds]
  have hks : k < cs.size := (Array.getElem?_eq_some_iff.1 (h2 k hk)).1
  by_cases q : j = k
  · subst q; simp [hks]
  · rw [if_neg (fun e => q e.symm), if_neg q, h2 j hj]

/-! ### places -/
theorem controlAt_any (g : Nat) (hg : g ≤ 4096) (w : World) : Calls Tryd.prog 52 #[.int .i64 (g : Nat)] w fun e w' => e = .returned (.int .i64 (3 + 17 * g : Nat)) ∧ w' = w := by
  go_enter Tryd.func52, Tryd.ntmps52
  go_wp2
  go_ret
  exact ⟨by simp, rfl⟩
theorem wordsOf_any (g : Nat) (hg : g ≤ 4096) (w : World) : Calls Tryd.prog 50 #[.int .i64 (g : Nat)] w fun e w' => e = .returned (.int .i64 (3 + 17 * g : Nat)) ∧ w' = w := by
  go_enter Tryd.func50, Tryd.ntmps50
  go_wp2
  go_ret
  exact ⟨by simp, rfl⟩
theorem hashAt_any (g i : Nat) (hg : g ≤ 4096) (hi : i ≤ 8) (w : World) : Calls Tryd.prog 77 #[.int .i64 (g : Nat), .int .i64 (i : Nat)] w fun e w' => e = .returned (.int .i64 (3 + 17 * g + 1 + 2 * i : Nat)) ∧ w' = w := by
  have K := controlAt_any g hg w
  go_enter Tryd.func77, Tryd.ntmps77
  go_wp2_with (go_at_call 52; refine met K ?_)
  go_ret
  exact ⟨by simp, rfl⟩
theorem idAt_any (g i : Nat) (hg : g ≤ 4096) (hi : i ≤ 8) (w : World) : Calls Tryd.prog 42 #[.int .i64 (g : Nat), .int .i64 (i : Nat)] w fun e w' => e = .returned (.int .i64 (3 + 17 * g + 2 + 2 * i : Nat)) ∧ w' = w := by
  have K := hashAt_any g i hg hi w
  go_enter Tryd.func42, Tryd.ntmps42
  go_wp2_with (go_at_call 77; refine met K ?_)
  go_ret
  exact ⟨by simp; omega, rfl⟩
theorem groupsOf_any (a : Option Addr) (n c : Nat) (T : List Nat) (w : World) (hT : Wd w a T) (hn : T.length = n) (h0 : 0 < n) (hG : T.getD 0 0 ≤ 4096) : Calls Tryd.prog 62 #[.slice a n c] w fun e w' => e = .returned (.int .i64 (T.getD 0 0 : Nat)) ∧ w' = w := by
  obtain ⟨b, o, rfl, hc⟩ := hT.at_ (by rintro rfl; simp at hn; omega)
  have c0 := hc 0 (by omega)
  rw [Nat.add_zero] at c0
  clear hc hT
  generalize T.getD 0 0 = G at *
  go_enter Tryd.func62, Tryd.ntmps62
  go_wp2
  go_ret
  exact ⟨rfl, rfl⟩
theorem tallowed_yes (G : Nat) (hG : Gp G) (w : World) : Calls Tryd.prog 49 #[.int .i64 (G : Nat)] w fun e w' => e = .returned (.bool true) ∧ w' = w := by
  have K := Pr.at_ok 0 G 0 hG hG.pos w
  generalize pl 0 G 0 = q at *
  go_enter Tryd.func49, Tryd.ntmps49
  go_wp2_with (go_at_call 80; refine met K ?_)
  go_ret
  exact ⟨rfl, rfl⟩
theorem tallowed_no (G : Int) (hG : ¬ GpI G) (w : World) : Calls Tryd.prog 49 #[.int .i64 G] w fun e w' => e = .returned (.bool false) ∧ w' = w := by
  have K := Pr.at_bad 0 G 0 (.inl hG) w
  go_enter Tryd.func49, Tryd.ntmps49
  go_wp2_with (go_at_call 80; refine met K ?_)
  go_ret
  exact ⟨rfl, rfl⟩
theorem and127 {n : Nat} (h : n < 18446744073709551616) : bits BinOp.and IntKind.u64 (n : Int) 127 = ((n % 128 : Nat) : Int) := by
  rw [show (127 : Int) = ((127 : Nat) : Int) from rfl, bits_and_u64_nat n 127 h (by omega), show (127 : Nat) = 2 ^ 7 - 1 from rfl, Nat.and_two_pow_sub_one_eq_mod]
theorem split_any (n : Nat) (hn : n < 18446744073709551616) (w : World) : Calls Tryd.prog 69 #[.int .u64 n] w (fun e w' => e = .returned (.tuple #[.int .u64 ((n / 128 : Nat) : Int), .int .u8 ((n % 128 : Nat) : Int)]) ∧ w' = w) := by
  have e := and127 hn
  have h1 : n % 128 < 128 := Nat.mod_lt _ (by omega)
  generalize n % 128 = r at *
  go_enter Tryd.func69, Tryd.ntmps69
  go_wp2
  go_ret2
  exact ⟨rfl, rfl⟩

/-! ### how many bits -/
def pc (x : Nat) : Nat := ((List.range 8).filter fun i => x.testBit i).length
def o1 (x : Int) : Int := IntKind.u64.wrap (bits BinOp.and IntKind.u64 (x / 2) 6148914691236517205 + bits BinOp.and IntKind.u64 x 6148914691236517205)
def o2 (y : Int) : Int := IntKind.u64.wrap (bits BinOp.and IntKind.u64 (y / 4) 3689348814741910323 + bits BinOp.and IntKind.u64 y 3689348814741910323)
def o3 (z : Int) : Int := bits BinOp.and IntKind.u64 (IntKind.u64.wrap (z / 16 + z)) 1085102592571150095
def o4 (a : Int) : Int := IntKind.u64.wrap (a + a / 256)
def o5 (a : Int) : Int := IntKind.u64.wrap (a + a / 65536)
def o6 (a : Int) : Int := IntKind.u64.wrap (a + a / 4294967296)
def o7 (a : Int) : Int := bits BinOp.and IntKind.i64 (wrap64 a) 127
theorem ones_val : ∀ x, x < 256 → o7 (o6 (o5 (o4 (o3 (o2 (o1 ((x : Nat) : Int))))))) = ((pc x : Nat) : Int) := by decide +kernel
set_option maxRecDepth 10000 in
theorem ones_any (x : Nat) (hx : x < 256) (w : World) : Calls Tryd.prog 65 #[.int .u64 x] w (fun e w' => e = .returned (.int .i64 (pc x : Nat)) ∧ w' = w) := by
  have e := ones_val x hx
  go_enter Tryd.func65, Tryd.ntmps65
  go_wp2
  go_ret
  exact ⟨congrArg (fun v => Ending.returned (.int .i64 v)) e, rfl⟩
end Go.Proofs.YtkknadkcpndnaaaDoor
