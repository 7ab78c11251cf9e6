/-
  How the program writes numbers; no statement is proved here.
-/
import Derived.Test.YtfjbhpjgidgjaaaDoorBytes
import Derived.Deep.LoopGhost
namespace Go.Proofs.YtfjbhpjgidgjaaaDoor
open Go.RowKit

/-- Whatever is no row of bytes is as it was. -/
def Fy (w w' : World) : Prop := ∀ (k : Nat) (cs : Array Value) (T : TypeId) (fz : Nat × Nat), T ≠ 5 → w.heap[k]? = some (Obj.cells cs T fz) → w'.heap[k]? = some (Obj.cells cs T fz)
theorem Fy.trans {a b c : World} (h : Fy a b) (k : Fy b c) : Fy a c := fun i cs T fz hT hc => k i cs T fz hT (h i cs T fz hT hc)
theorem Fy.of {w w' : World} (h : Ext [] w w') : Fy w w' := fun k cs T fz _ hc => h.keep hc (by simp)
theorem Fy.own {base : Nat} {w w' : World} {v : Value} {n : Nat} {xs : List Value} (h : w.ownsRow base 5 1 v n xs) (e : Ext v.ownBlock.toList w w') : Fy w w' := fun k cs T fz hT hc => by
  refine e.keep hc ?_
  intro hk
  obtain ⟨cur, h2⟩ := own_at h (q := k) (by simpa using hk)
  rw [h2] at hc
  simp only [Option.some.injEq, Obj.cells.injEq] at hc
  exact hT hc.2.1.symm

/-- A slice of bytes of one's own. -/
def YOwn (w0 w : World) (v : Value) (xs : List Int) : Prop := w.ownsRow w0.heap.size 5 1 v xs.length (xs.map (Value.int .u8))
def YPost (w0 w : World) (xs : List Int) (e : Ending) (w' : World) : Prop := ∃ v, e = .returned v ∧ YOwn w0 w' v xs ∧ Ext [] w0 w' ∧ Fy w w'

theorem YOwn.app {w0 w : World} {v : Value} {xs ys : List Int} (hO : YOwn w0 w v xs) (hE : Ext [] w0 w) {a : Option Addr} {c : Nat} (hB : Bs w a ys) (hl : xs.length + ys.length ≤ 100000000) :
    ∃ v' w', (Builtin.append_ #[36, 36] 36 #[v, .slice a ys.length c]).run Tryd.prog w = .ok v' w' ∧ YOwn w0 w' v' (xs ++ ys) ∧ Ext [] w0 w' ∧ Fy w w' := by
  obtain ⟨v1, w2, hr1, hO1, hE2, hX⟩ := app_own w0 w hE 36 36 5 _ 1 Tryd.underlying36 info5 rfl (by omega) _ _ _ hO a ys.length c (ys.map (Value.int .u8)) (by simp) hB (fun u hu => by obtain ⟨x, _, rfl⟩ := List.mem_map.1 hu; rfl) (by omega)
  refine ⟨v1, w2, hr1, ?_, hE2, Fy.own hO hX⟩
  unfold YOwn
  rw [List.length_append, List.map_append]
  exact hO1
/-- append of one byte. -/
theorem YOwn.app1 {w0 w : World} {v : Value} {xs : List Int} (hO : YOwn w0 w v xs) (hE : Ext [] w0 w) (y : Int) (hl : xs.length + 1 ≤ 100000000) :
    ∃ v' w', (Builtin.append_ #[36, 36] 36 #[v, .slice (some ⟨w.heap.size, 0, none⟩) 1 1]).run Tryd.prog (w.alloc (.cells #[.int .u8 y] 5)) = .ok v' w' ∧ YOwn w0 w' v' (xs ++ [y]) ∧ Ext [] w0 w' ∧ Fy w w' := by
  have hE2 := Ext.alloc [] w (.cells #[.int .u8 y] 5)
  obtain ⟨v', w', h1, h2, h3, h4⟩ := YOwn.app (own_keep0 hO hE2) (hE.trans hE2) (a := some ⟨w.heap.size, 0, none⟩) (c := 1) (ys := [y]) (vs_new w 5 [.int .u8 y]) (by simpa using hl)
  exact ⟨v', w', h1, h2, h3, (Fy.of hE2).trans h4⟩

theorem vb_len : ∀ k n : Nat, n < 128 ^ (k + 1) → (vb n).length ≤ k + 1
  | 0, n, h => by rw [vb_lo (by simpa using h)]; simp
  | k + 1, n, h => by
    by_cases h1 : n < 128
    · rw [vb_lo h1]; simp
    · rw [vb_hi h1, List.length_cons]
      have := vb_len k (n / 128) (by rw [Nat.div_lt_iff_lt_mul (by omega)]; rw [Nat.pow_succ] at h; exact h)
      omega
theorem vb_len5 {n : Nat} (h : n ≤ 2147483647) : (vb n).length ≤ 5 := vb_len 4 n (by omega)

set_option maxRecDepth 100000 in
theorem or128 (m : Nat) : bits .or .u8 ((m % 256 : Nat) : Int) 128 = ((128 + m % 128 : Nat) : Int) := by
  have : ∀ n : Fin 256, bits .or .u8 ((n.val : Nat) : Int) 128 = ((128 + n.val % 128 : Nat) : Int) := by decide
  have h := this ⟨m % 256, by omega⟩
  simp only at h
  rw [h]
  congr 1
  omega
theorem wrap8 (m : Nat) : IntKind.u8.wrap (m : Int) = ((m % 256 : Nat) : Int) := by rw [IntKind.wrap_u8]; omega

set_option maxRecDepth 100000 in
set_option maxHeartbeats 1000000 in
theorem num_any (w0 w : World) (v : Value) (xs : List Int) (n : Nat) (hO : YOwn w0 w v xs) (hE : Ext [] w0 w) (hl : xs.length ≤ 1000000) (hn : n ≤ 2147483647) :
    Calls Tryd.prog 42 #[v, .int .u64 (n : Int)] w (YPost w0 w (xs ++ vb n)) := by
  have HO := hid hO
  have HE := hid hE
  have HL5 := hid (vb_len5 hn)
  clear hO hE
  go_enter Tryd.func42, Tryd.ntmps42
  go_wp2_with fail
  go_loopg [0, 1] n (fun g lv u wr => ∃ (m : Nat) (ys : List Int), m ≤ g ∧ u = .int .u64 (m : Nat) ∧ YOwn w0 wr lv (xs ++ ys) ∧ Hid (ys ++ vb m = vb n) ∧ Ext [] w0 wr ∧ Fy w wr)
  case atStart => exact ⟨n, [], Nat.le_refl _, rfl, by simpa using HO.out, rfl, HE.out, Fy.of (Ext.refl _ _)⟩
  case round =>
    clear HO HE
    obtain ⟨m, ys, hmg, rfl, hO, hY, hE, hF⟩ := hrel
    have HO := hid hO
    have HE := hid hE
    have HF := hid hF
    have hyl : ys.length ≤ 5 := by
      have h1 := HL5.out
      have h2 := congrArg List.length hY.out
      simp at h2
      omega
    clear hO hE hF
    by_cases hm : m < 128
    · obtain ⟨v2, w2, hr, hO2, hE2, hF2⟩ := YOwn.app1 HO.out HE.out (m : Int) (by simp; omega)
      have HFin : Hid (YPost w0 w (xs ++ vb n) (.returned v2) w2) := by
        refine ⟨v2, rfl, ?_, hE2, HF.out.trans hF2⟩
        rw [← hY.out, vb_lo hm, ← List.append_assoc]
        exact hO2
      clear hO2 hE2 hF2 hY
      go_wp2_with (at_builtin; refine wpList_append_run rfl _ _ 36 rfl _ _ _ rfl rfl hr ?_)
      go_ret
      exact HFin.out
    · obtain ⟨y, hy⟩ : ∃ y : Int, y = ((128 + m % 128 : Nat) : Int) := ⟨_, rfl⟩
      obtain ⟨v2, w2, hr, hO2, hE2, hF2⟩ := YOwn.app1 HO.out HE.out y (by simp; omega)
      have hor : bits .or .u8 ((m : Int) % 256) 128 = y := by
        have := or128 m
        rw [hy, ← this]; congr 1
      have HY2 : Hid ((ys ++ [y]) ++ vb (m / 128) = vb n) := by
        show _ = _
        rw [← hY.out, vb_hi hm, List.append_assoc, hy]; rfl
      have HN : Hid (YOwn w0 w2 v2 (xs ++ (ys ++ [y])) ∧ Ext [] w0 w2 ∧ Fy w w2) := ⟨by rw [← List.append_assoc]; exact hO2, hE2, HF.out.trans hF2⟩
      clear hy
      clear hO2 hE2 hF2 hY
      go_wp2_with (at_builtin; refine wpList_append_run rfl _ _ 36 rfl _ _ _ rfl rfl hr ?_)
      go_roundg (m / 128)
      case measure => omega
      case rel => exact ⟨m / 128, _, Nat.le_refl _, by go_num, HN.out.1, HY2.out, HN.out.2.1, HN.out.2.2⟩

end Go.Proofs.YtfjbhpjgidgjaaaDoor
