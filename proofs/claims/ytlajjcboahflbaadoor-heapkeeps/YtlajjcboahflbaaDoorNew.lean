/-
  A new heap; no statement is proved here.
-/
import Derived.Test.YtlajjcboahflbaaDoorFreeI
namespace Go.Proofs.YtlajjcboahflbaaDoor
open Go.RowKit

theorem rnew_bad (k : Int) (w : World) (h : k < 0 ∨ 1024 < k) : Calls Tryd.prog 60 #[.int .i64 k] w fun e w' => e = .returned (.tuple #[.pointer none, .int .i64 2]) ∧ w' = w := by
  rcases h with h | h
  · go_enter Tryd.func60, Tryd.ntmps60
    go_wp2
    go_ret2
    exact ⟨rfl, rfl⟩
  · have h2 : ¬ k < 0 := by omega
    go_enter Tryd.func60, Tryd.ntmps60
    go_wp2
    go_ret2
    exact ⟨rfl, rfl⟩

def RNewPost (w : World) (k : Nat) (e : Ending) (w' : World) : Prop :=
  ∃ p v, e = .returned (.tuple #[.pointer (some ⟨p, 0, none⟩), .int .i64 0]) ∧ w'.heap[p]? = some (.cells #[v] 94 (0, 0)) ∧ Lst w' v (newR k) ∧ w.heap.size ≤ p ∧ (∀ g, v.ownBlock = some g → w.heap.size ≤ g) ∧ Ext [] w w'
theorem lst_row {w : World} {g : Nat} (L : List Rn) (n : Nat) (hn : L.length = n) (hm : n ≤ maxLen) (h : w.heap[g]? = some (.cells (rcells L).toArray 38 (0, 0))) : Lst w (.slice (some ⟨g, 0, none⟩) n n) L := by
  subst hn
  exact ⟨rcells_len L, .inr ⟨g, _, _, rfl, Nat.zero_le _, h, Nat.le_refl _, hm, by simp [rcells_len], by simp [← rcells_len]⟩⟩
theorem rnew_ok (k : Nat) (w : World) (h : k ≤ 1024) : Calls Tryd.prog 60 #[.int .i64 k] w (RNewPost w k) := by
  by_cases h0 : k = 0
  · subst h0
    go_enter Tryd.func60, Tryd.ntmps60
    go_wp2
    go_ret2
    exact ⟨_, _, rfl, heap_alloc_new _ _, lst_nil _, Nat.le_refl _, by simp [Value.ownBlock], Ext.alloc _ _ _⟩
  · have hk : 0 < k := by omega
    go_enter Tryd.func60, Tryd.ntmps60
    go_wp2
    go_ret2
    refine ⟨_, .slice (some ⟨w.heap.size + 1, 0, none⟩) 1 1, rfl, ?_, ?_, Nat.le_refl _, by simp [Value.ownBlock], ?_⟩
    · exact heap_alloc2_old _ _ _
    · have e : newR k = [⟨0, k, false⟩] := by simp [newR, h0]
      rw [e]
      exact lst_row [⟨0, k, false⟩] 1 rfl (by decide) (heap_alloc2_new _ _ _)
    · exact (Ext.alloc _ _ _).trans (Ext.alloc _ _ _)

theorem info85 : (Tryd.prog.info? 85).map (fun i => (i.zero, i.size, i.bytes)) = some (some (.pointer none), 1, 8) := by kernel_rfl

/-- A new heap. -/
def newH (k : Nat) : Hs := ⟨k, newR k, [], List.replicate ((k + 1) * 256) 0⟩
theorem newH_ok {k : Nat} (h : k ≤ 1024) : Hv (newH k) := by
  refine ⟨inv_new k h, ?_, by simp [newH], by simp [newH], fun x hx => ?_⟩
  · unfold newH newR
    simp only [List.map_nil]
    split <;> simp [used]
  · simp only [newH, List.mem_replicate] at hx
    omega
def HNewPost (w : World) (k : Nat) (e : Ending) (w' : World) : Prop :=
  ∃ h cs F, e = .returned (.tuple #[.pointer (some ⟨h, 0, none⟩), .int .i64 0]) ∧ Hw w' h 0 97 cs F (newH k) ∧ w.heap.size ≤ h ∧ (∀ b, F b → w.heap.size ≤ b) ∧ cs.size = 3 ∧ Ext [] w w'

theorem hnew_bad (k : Int) (w : World) (h : k < 0 ∨ 1024 < k) : Calls Tryd.prog 28 #[.int .i64 k] w fun e w' => e = .returned (.tuple #[.pointer none, .int .i64 2]) ∧ w' = w := by
  go_enter Tryd.func28, Tryd.ntmps28
  go_wp2_with (first | (go_at_call 60; refine met (rnew_bad _ _ h) ?_) | fail "no arm")
  go_ret2
  exact ⟨rfl, rfl⟩

set_option maxRecDepth 100000 in
set_option maxHeartbeats 2000000 in
theorem hnew_ok (k : Nat) (w : World) (h : k ≤ 1024) : Calls Tryd.prog 28 #[.int .i64 k] w (HNewPost w k) := by
  have K1 := rnew_ok k w h
  have K2 := fun u => pageAddr_any (k : Int) u (by omega)
  have K3 := fun u => anew_ok ((k + 1) * 256) u (by omega)
  have e1 : ((((k + 1) * 256 : Nat)) : Int) = ((k : Int) + 1) * 256 := by omega
  rw [e1] at K3
  obtain ⟨i, hi, hz0, hz1, hz2⟩ := info_parts info85
  have HMK : Hid (∀ u, (Instr.makeSlice 95 (.int .i64 (k : Int)) (.int .i64 (k : Int))).run Tryd.prog u = .ok (.slice (some ⟨u.heap.size, 0, none⟩) k k) (u.alloc (.cells (ocells (List.replicate k none)).toArray 85))) := by
    intro u
    have hr := run_make (P := Tryd.prog) u 95 85 i _ Tryd.underlying95 hi hz0 .i64 .i64 k k (by omega) (Int.le_refl _) (by rw [hz2]; omega) (by omega)
    rw [hz1] at hr
    simp only [Int.toNat_natCast] at hr
    have hm : madeCells (Value.pointer none).cells (k * 1) = (ocells (List.replicate k none)).toArray := by
      apply Array.toList_inj.1
      rw [show (Value.pointer none).cells = #[.pointer none] from rfl, toList_madeCells_one]
      simp [ocells]
    rw [hm] at hr
    exact hr
  clear hz0 hz1 hz2 hi i e1
  go_enter Tryd.func28, Tryd.ntmps28
  go_upto_region 7 with (first | (go_at_call 60; refine K1.mono ?_; clear K1; rintro e w1 ⟨p, v, rfl, hb, hl, hp, hv, hE1⟩) | (go_at_call 62; refine met (K2 _) ?_) | (go_at_call 61; refine (K3 _).mono ?_; clear K3; rintro e w2 ⟨rfl, hA, hE2⟩) | fail "no arm")
  have hmk := HMK.out w2.drew
  have hb2 := hE2.keep hb (by simp)
  have hl2 := hl.keep0 hE2
  have hac := hA.cell
  rw [List.length_replicate] at hac
  have hpc : w2.cell? ⟨p, 0, none⟩ = some v := by rw [cell_of_row _ _ _ _ _ _ hb2]; rfl
  obtain ⟨q, hq⟩ : ∃ q, q = w1.heap.size + 1 := ⟨_, rfl⟩
  rw [← hq] at hA hac ⊢
  have HQ := hid hq
  obtain ⟨nb, hnb⟩ : ∃ nb, nb = (k + 1) * 256 := ⟨_, rfl⟩
  rw [← hnb] at hA hac
  have HNB := hid hnb
  have HA := hid hA
  have HL2 := hid hl2
  have HE := hid (hE1.trans hE2)
  have HP := hid hp
  have HV := hid hv
  have HS1 := hid hE1.size
  have hE3 := Ext.alloc [] w2 (.cells (ocells (List.replicate k none)).toArray 85)
  have c0 := (Ext.drew [] w2).cell hac (by simp)
  have c1 := (Ext.drew [] w2).cell hpc (by simp)
  have c2 := hE3.cell hac (by simp)
  have c3 := hE3.cell hpc (by simp)
  have hfin : Hid (∀ W, W = ((w2.alloc (.cells (ocells (List.replicate k none)).toArray 85)).alloc (.cells #[.slice (some ⟨w1.heap.size, 0, none⟩) nb nb, v, .slice (some ⟨w2.heap.size, 0, none⟩) k k] 97)).drew → Hw W (w2.heap.size + 1) 0 97 #[.slice (some ⟨w1.heap.size, 0, none⟩) nb nb, v, .slice (some ⟨w2.heap.size, 0, none⟩) k k] (fun b => w.heap.size ≤ b ∧ b ≠ w2.heap.size + 1) (newH k) ∧ Ext [] w W) := by
    rintro W rfl
    have e4 := hE3.trans (Ext.alloc [] _ (.cells #[.slice (some ⟨w1.heap.size, 0, none⟩) nb nb, v, .slice (some ⟨w2.heap.size, 0, none⟩) k k] 97))
    have e5 := e4.trans (Ext.drew [] _)
    have hz1 := hE1.size
    have hz2 := hE2.size
    refine ⟨⟨w1.heap.size, w2.heap.size, v, fun _ => (0, 0), List.replicate k none, ⟨?_, by simp, by decide⟩, by decide, ?_, ?_, ?_, hl2.keep0 e5, ?_, by simp [newH], ?_, by simp [newH], by simp [newH], ?_, ?_, ?_, by simp [newH], by simp, newH_ok h⟩, (hE1.trans hE2).trans e5⟩
    · exact (Ext.drew [] _).keep (heap_alloc2_new w2 _ _) (by simp)
    · simp only [newH, List.length_replicate, ← hnb]; rfl
    · simp only [List.length_replicate]; rfl
    · show Row _ _ (List.replicate ((k + 1) * 256) 0)
      rw [← hnb]
      exact hA.row.keep e5 (by simp)
    · exact (Ext.drew [] _).keep (heap_alloc2_old w2 _ _) (by simp)
    · intro i hi
      simp only [newH, spanAt, List.find?_nil, Option.map_none]
      rw [List.getD_eq_getElem?_getD, List.getElem?_replicate]
      split <;> rfl
    · have := lt_of_heap hA.row; exact ⟨hz1, by omega⟩
    · exact ⟨by omega, by omega⟩
    · intro g hg
      have h1 := hv g hg
      have h2 := hl2.lt g hg
      exact ⟨h1, by omega⟩
  clear hA hl hl2 hb hb2 hE1 hE2 hE3 hp hv hq hnb HMK hac hpc
  generalize (ocells (List.replicate k none)).toArray = X at *
  go_region_law (fail)
  all_goals
    go_wp2_with fail
    go_ret2
    obtain ⟨f1, f2⟩ := hfin.out _ rfl
    have z2 := HE.out.size
    exact ⟨w2.heap.size + 1, _, _, rfl, f1, by omega, fun b hb => hb.1, rfl, f2⟩

end Go.Proofs.YtlajjcboahflbaaDoor
