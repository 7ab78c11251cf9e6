/-
  MGet, MNil: joined by program; no statement is proved here.
-/
import Derived.Test.YtjbbomokgpoilaaGreatDoorZMC
import Derived.Test.YtjbbomokgpoilaaGreatDoorZHD
import Derived.Test.YtjbbomokgpoilaaGreatDoorZMD
import Derived.Test.YtjbbomokgpoilaaGreatDoorZHE
/-
  part, Get and Ptrs of a memory; no statement is proved here.
-/
namespace Go.Proofs.YtjbbomokgpoilaaGreatDoor
open Go.RowKit

/-- The error of a word. -/
def partE (M : Ms) (a i : Int) : Int := match fndM M a with
  | none => 4
  | some o => if i < 0 ∨ (o.sl.length : Int) ≤ i then 5 else 0
theorem partE_vals (M : Ms) (a i : Int) : partE M a i = 0 ∨ partE M a i = 4 ∨ partE M a i = 5 := by
  unfold partE; split; simp; split <;> simp
theorem partE_ok {M : Ms} {a i : Int} (h : partE M a i = 0) : ∃ o, fndM M a = some o ∧ 0 ≤ i ∧ i < o.sl.length := by
  unfold partE at h
  split at h
  · cases h
  · rename_i o ho
    split at h
    · cases h
    · exact ⟨o, ho, by omega, by omega⟩

theorem mpart_nil (a i : Int) (w : World) : Calls Tryz.prog 38 #[.pointer none, .int .i64 a, .int .i64 i] w (SayPost w (.tuple #[moZ, .int .i64 2])) := by
  have K := fun u => find_nil a u
  unfold moZ at *
  obtain ⟨wa, hwa⟩ : ∃ wa, wa = w.alloc (.cells #[.int .i64 0, .slice none 0 0] 89) := ⟨_, rfl⟩
  have HB : Hid (∀ u, Ext [] wa u → u.heap[w.heap.size]? = some (.cells #[.int .i64 0, .slice none 0 0] 89 (0, 0)) ∧ Ext [] w u) := fun u hu => by
    refine ⟨hu.keep (by rw [hwa]; exact heap_alloc_new _ _) (by simp), Ext.trans (by rw [hwa]; exact Ext.alloc _ _ _) hu⟩
  go_enter Tryz.func38, Tryz.ntmps38
  go_upto_region 1 with fail
  rw [← hwa]
  clear hwa
  have K1 := K wa
  go_wp2_with fail
  refine K1.mono ?_
  rintro e w1 ⟨rfl, hE⟩
  have HE := hid hE
  obtain ⟨hb, hE2⟩ := HB.out _ (hE.trans (Ext.alloc [] w1 (.cells #[.int .i64 0, .slice none 0 0] 89)))
  have q0 : (w1.alloc (.cells #[.int .i64 0, .slice none 0 0] 89)).cell? ⟨w.heap.size, 0, none⟩ = some (.int .i64 0) := by rw [cell_of_row _ _ _ _ _ _ hb]; rfl
  have q1 : (w1.alloc (.cells #[.int .i64 0, .slice none 0 0] 89)).cell? ⟨w.heap.size, 1, none⟩ = some (.slice none 0 0) := by rw [cell_of_row _ _ _ _ _ _ hb]; rfl
  have z0 : ∀ j, (w1.alloc (.cells #[.int .i64 0, .slice none 0 0] 89)).frozen? ⟨w.heap.size, j, none⟩ = false := fun j => frozen_of_row _ _ _ _ _ hb
  have HF := hid (And.intro hb hE2)
  clear hE hb hE2 K K1 HB HE
  go_wp2_with fail
  refine bodyPost_ret (res89 rfl (set89 HF.out.1 rfl _ _) _ ?_ ?_) rfl ⟨rfl, ext89 HF.out.2 (Nat.le_refl _) _ _⟩
  · rfl
  · rfl

section
variable {w : World} {p : Nat} {M : Ms} {X : Co.Fo} {cs : Array Value} {cl : Nat → Nat} {bo ba : Nat} {fo : Int → Option Value}

def pV (M : Ms) (fo : Int → Option Value) (a i : Int) : Value := if partE M a i = 0 then fV M fo a else moZ

set_option maxHeartbeats 1000000 in
theorem mpart_any (h : Mm w p M X cs cl bo ba fo) (hlen : M.G.ns.length ≤ 65536) (a i : Int) (hi : I64 a) : Calls Tryz.prog 38 #[.pointer (some ⟨p, 0, none⟩), .int .i64 a, .int .i64 i] w (SayPost w (.tuple #[pV M fo a i, .int .i64 (partE M a i)])) := by
  obtain ⟨wa, hwa⟩ : ∃ wa, wa = w.alloc (.cells #[.int .i64 0, .slice none 0 0] 89) := ⟨_, rfl⟩
  have hEa : Ext [] w wa := by rw [hwa]; exact Ext.alloc _ _ _
  have HB : Hid (∀ u, Ext [] wa u → u.heap[w.heap.size]? = some (.cells #[.int .i64 0, .slice none 0 0] 89 (0, 0)) ∧ Ext [] w u) := fun u hu => by
    refine ⟨hu.keep (by rw [hwa]; exact heap_alloc_new _ _) (by simp), hEa.trans hu⟩
  have K := mfind_any (h.keep0 hEa) hlen a hi
  cases hf : fndM M a with
  | none =>
    obtain ⟨e1, e2⟩ := fV_none (fo := fo) hf
    have e3 : partE M a i = 4 := by unfold partE; rw [hf]
    have e4 : pV M fo a i = moZ := by unfold pV; rw [e3]; rfl
    rw [e1, e2] at K
    rw [e3, e4]
    unfold moZ at *
    clear h hEa hf e1 e2 e3 e4
    go_enter Tryz.func38, Tryz.ntmps38
    go_upto_region 1 with fail
    rw [← hwa]
    clear hwa
    go_wp2_with fail
    refine K.mono ?_
    rintro e w1 ⟨rfl, hE⟩
    obtain ⟨hb, hE2⟩ := HB.out _ (hE.trans (Ext.alloc [] w1 (.cells #[.int .i64 0, .slice none 0 0] 89)))
    have q0 : (w1.alloc (.cells #[.int .i64 0, .slice none 0 0] 89)).cell? ⟨w.heap.size, 0, none⟩ = some (.int .i64 0) := by rw [cell_of_row _ _ _ _ _ _ hb]; rfl
    have q1 : (w1.alloc (.cells #[.int .i64 0, .slice none 0 0] 89)).cell? ⟨w.heap.size, 1, none⟩ = some (.slice none 0 0) := by rw [cell_of_row _ _ _ _ _ _ hb]; rfl
    have z0 : ∀ j, (w1.alloc (.cells #[.int .i64 0, .slice none 0 0] 89)).frozen? ⟨w.heap.size, j, none⟩ = false := fun j => frozen_of_row _ _ _ _ _ hb
    have HF := hid (And.intro hb hE2)
    clear hE hb hE2 K HB
    go_wp2_with fail
    refine bodyPost_ret (res89 rfl (set89 HF.out.1 rfl _ _) _ ?_ ?_) rfl ⟨rfl, ext89 HF.out.2 (Nat.le_refl _) _ _⟩
    · rfl
    · rfl
  | some o =>
    obtain ⟨g, e1, e2, _, _, hsl, _, _⟩ := fV_some h hf
    rw [e1, e2] at K
    have hpE : partE M a i = if i < 0 ∨ (o.sl.length : Int) ≤ i then 5 else 0 := by unfold partE; rw [hf]
    have hpV : pV M fo a i = if i < 0 ∨ (o.sl.length : Int) ≤ i then moZ else moV o g := by
      unfold pV; rw [hpE, e1]; split <;> simp
    rw [hpE, hpV]
    unfold moZ moV at *
    clear h hEa hf e1 e2 hpE hpV
    generalize o.sl.length = sl at *
    generalize o.nd = nd at *
    by_cases h1 : i < 0
    · rw [if_pos (.inl h1), if_pos (.inl h1)]
      have d1 : decide (i < 0) = true := by simpa using h1
      go_enter Tryz.func38, Tryz.ntmps38
      go_upto_region 1 with fail
      rw [← hwa]
      clear hwa
      go_wp2_with fail
      refine K.mono ?_
      rintro e w1 ⟨rfl, hE⟩
      obtain ⟨hb, hE2⟩ := HB.out _ (hE.trans (Ext.alloc [] w1 (.cells #[.int .i64 nd, .slice (some ⟨g, 0, none⟩) sl sl] 89)))
      have q0 : (w1.alloc (.cells #[.int .i64 nd, .slice (some ⟨g, 0, none⟩) sl sl] 89)).cell? ⟨w.heap.size, 0, none⟩ = some (.int .i64 0) := by rw [cell_of_row _ _ _ _ _ _ hb]; rfl
      have q1 : (w1.alloc (.cells #[.int .i64 nd, .slice (some ⟨g, 0, none⟩) sl sl] 89)).cell? ⟨w.heap.size, 1, none⟩ = some (.slice none 0 0) := by rw [cell_of_row _ _ _ _ _ _ hb]; rfl
      have z0 : ∀ j, (w1.alloc (.cells #[.int .i64 nd, .slice (some ⟨g, 0, none⟩) sl sl] 89)).frozen? ⟨w.heap.size, j, none⟩ = false := fun j => frozen_of_row _ _ _ _ _ hb
      have HF := hid (And.intro hb hE2)
      clear hE hb hE2 K HB
      go_wp2_with fail
      refine bodyPost_ret (res89 rfl (set89 HF.out.1 rfl _ _) _ ?_ ?_) rfl ⟨rfl, ext89 HF.out.2 (Nat.le_refl _) _ _⟩
      · rfl
      · rfl
    · have d1 : decide (i < 0) = false := by simpa using h1
      by_cases h2 : (sl : Int) ≤ i
      · rw [if_pos (.inr h2), if_pos (.inr h2)]
        have d2 : decide (i ≥ (sl : Int)) = true := by simpa using h2
        go_enter Tryz.func38, Tryz.ntmps38
        go_upto_region 1 with fail
        rw [← hwa]
        clear hwa
        go_wp2_with fail
        refine K.mono ?_
        rintro e w1 ⟨rfl, hE⟩
        obtain ⟨hb, hE2⟩ := HB.out _ (hE.trans (Ext.alloc [] w1 (.cells #[.int .i64 nd, .slice (some ⟨g, 0, none⟩) sl sl] 89)))
        have q0 : (w1.alloc (.cells #[.int .i64 nd, .slice (some ⟨g, 0, none⟩) sl sl] 89)).cell? ⟨w.heap.size, 0, none⟩ = some (.int .i64 0) := by rw [cell_of_row _ _ _ _ _ _ hb]; rfl
        have q1 : (w1.alloc (.cells #[.int .i64 nd, .slice (some ⟨g, 0, none⟩) sl sl] 89)).cell? ⟨w.heap.size, 1, none⟩ = some (.slice none 0 0) := by rw [cell_of_row _ _ _ _ _ _ hb]; rfl
        have z0 : ∀ j, (w1.alloc (.cells #[.int .i64 nd, .slice (some ⟨g, 0, none⟩) sl sl] 89)).frozen? ⟨w.heap.size, j, none⟩ = false := fun j => frozen_of_row _ _ _ _ _ hb
        have HF := hid (And.intro hb hE2)
        clear hE hb hE2 K HB
        go_wp2_with fail
        refine bodyPost_ret (res89 rfl (set89 HF.out.1 rfl _ _) _ ?_ ?_) rfl ⟨rfl, ext89 HF.out.2 (Nat.le_refl _) _ _⟩
        · rfl
        · rfl
      · have hno : ¬ (i < 0 ∨ (sl : Int) ≤ i) := by omega
        rw [if_neg hno, if_neg hno]
        have d2 : decide (i ≥ (sl : Int)) = false := by simpa using h2
        go_enter Tryz.func38, Tryz.ntmps38
        go_upto_region 1 with fail
        rw [← hwa]
        clear hwa
        go_wp2_with fail
        refine K.mono ?_
        rintro e w1 ⟨rfl, hE⟩
        obtain ⟨hb, hE2⟩ := HB.out _ (hE.trans (Ext.alloc [] w1 (.cells #[.int .i64 nd, .slice (some ⟨g, 0, none⟩) sl sl] 89)))
        have q0 : (w1.alloc (.cells #[.int .i64 nd, .slice (some ⟨g, 0, none⟩) sl sl] 89)).cell? ⟨w.heap.size, 0, none⟩ = some (.int .i64 0) := by rw [cell_of_row _ _ _ _ _ _ hb]; rfl
        have q1 : (w1.alloc (.cells #[.int .i64 nd, .slice (some ⟨g, 0, none⟩) sl sl] 89)).cell? ⟨w.heap.size, 1, none⟩ = some (.slice none 0 0) := by rw [cell_of_row _ _ _ _ _ _ hb]; rfl
        have z0 : ∀ j, (w1.alloc (.cells #[.int .i64 nd, .slice (some ⟨g, 0, none⟩) sl sl] 89)).frozen? ⟨w.heap.size, j, none⟩ = false := fun j => frozen_of_row _ _ _ _ _ hb
        have HF := hid (And.intro hb hE2)
        clear hE hb hE2 K HB
        go_wp2_with fail
        refine bodyPost_ret (res89 rfl (set89 HF.out.1 rfl _ _) _ ?_ ?_) rfl ⟨rfl, ext89 HF.out.2 (Nat.le_refl _) _ _⟩
        · rfl
        · rfl

end

end Go.Proofs.YtjbbomokgpoilaaGreatDoor

/-
  A nil memory; a new one that answers; no statement is proved here.
-/
namespace Go.Proofs.YtjbbomokgpoilaaGreatDoor
open Go.RowKit

theorem get_nil (a i : Int) (w : World) : Calls Tryz.prog 10 #[.pointer none, .int .i64 a, .int .i64 i] w (SayPost w (.tuple #[.int .u64 0, .int .i64 2])) := by
  have K := mpart_nil a i w
  unfold moZ at K
  go_enter Tryz.func10, Tryz.ntmps10
  go_wp2_with (first | (go_at_call 38; refine K.mono ?_; clear K; rintro e w1 ⟨rfl, hE⟩; have HE := hid hE; clear hE) | fail "no arm")
  go_ret2
  exact ⟨rfl, HE.out.trans (Ext.alloc _ _ _)⟩
theorem set_nil (a i v : Int) (w : World) : Calls Tryz.prog 14 #[.pointer none, .int .i64 a, .int .i64 i, .int .u64 v] w (SayPost w (.int .i64 2)) := by
  have K := mpart_nil a i w
  unfold moZ at K
  go_enter Tryz.func14, Tryz.ntmps14
  go_wp2_with (first | (go_at_call 38; refine K.mono ?_; clear K; rintro e w1 ⟨rfl, hE⟩; have HE := hid hE; clear hE) | fail "no arm")
  go_ret
  exact ⟨rfl, HE.out.trans (Ext.alloc _ _ _)⟩
theorem ptrs_nil (a : Int) (w : World) : Calls Tryz.prog 11 #[.pointer none, .int .i64 a] w (SayPost w (.tuple #[.slice none 0 0, .int .i64 2])) := by
  have K := find_nil a w
  unfold moZ at K
  go_enter Tryz.func11, Tryz.ntmps11
  go_wp2_with (first | (go_at_call 40; refine K.mono ?_; clear K; rintro e w1 ⟨rfl, hE⟩; have HE := hid hE; clear hE) | fail "no arm")
  go_ret2
  exact ⟨rfl, HE.out.trans (Ext.alloc _ _ _)⟩

theorem minfo_nil (a : Int) (w : World) : Calls Tryz.prog 12 #[.pointer none, .int .i64 a] w (SayPost w (.tuple #[obV 0 0 0, .int .i64 2])) := by
  have K := fun u => find_nil a u
  unfold moZ at K
  obtain ⟨wa, hwa⟩ : ∃ wa, wa = w.alloc (.cells #[.int .i64 0, .int .i64 0, .int .i64 0, .slice none 0 0] 34) := ⟨_, rfl⟩
  have HB : Hid (∀ u, Ext [] wa u → u.heap[w.heap.size]? = some (.cells #[.int .i64 0, .int .i64 0, .int .i64 0, .slice none 0 0] 34 (0, 0)) ∧ Ext [] w u) := fun u hu => by
    refine ⟨hu.keep (by rw [hwa]; exact heap_alloc_new _ _) (by simp), Ext.trans (by rw [hwa]; exact Ext.alloc _ _ _) hu⟩
  unfold obV
  go_enter Tryz.func12, Tryz.ntmps12
  go_upto_region 1 with fail
  rw [← hwa]
  clear hwa
  have K1 := K wa
  go_wp2_with fail
  refine K1.mono ?_
  rintro e w1 ⟨rfl, hE⟩
  obtain ⟨hb, hE2⟩ := HB.out _ (hE.trans (Ext.alloc [] w1 (.cells #[.int .i64 0, .slice none 0 0] 89)))
  have q0 : (w1.alloc (.cells #[.int .i64 0, .slice none 0 0] 89)).cell? ⟨w.heap.size, 0, none⟩ = some (.int .i64 0) := by rw [cell_of_row _ _ _ _ _ _ hb]; rfl
  have q1 : (w1.alloc (.cells #[.int .i64 0, .slice none 0 0] 89)).cell? ⟨w.heap.size, 1, none⟩ = some (.int .i64 0) := by rw [cell_of_row _ _ _ _ _ _ hb]; rfl
  have q2 : (w1.alloc (.cells #[.int .i64 0, .slice none 0 0] 89)).cell? ⟨w.heap.size, 2, none⟩ = some (.int .i64 0) := by rw [cell_of_row _ _ _ _ _ _ hb]; rfl
  have q3 : (w1.alloc (.cells #[.int .i64 0, .slice none 0 0] 89)).cell? ⟨w.heap.size, 3, none⟩ = some (.slice none 0 0) := by rw [cell_of_row _ _ _ _ _ _ hb]; rfl
  have z0 : ∀ j, (w1.alloc (.cells #[.int .i64 0, .slice none 0 0] 89)).frozen? ⟨w.heap.size, j, none⟩ = false := fun j => frozen_of_row _ _ _ _ _ hb
  have HF := hid (And.intro hb hE2)
  clear hE hb hE2 K K1 HB
  go_wp2_with fail
  have h5 := results_cell_tmp2 (P := Tryz.prog) (fn := Tryz.f12) (p := 4) (q := 5) (ty := 34) rfl
  refine bodyPost_ret (h5 _ _ ⟨w.heap.size, 0, none⟩ _ ?_ (load34 (set34 HF.out.1 rfl 0 0 0))) rfl ⟨rfl, HF.out.2.on (ext34 0 0 0) (by simp)⟩
  rfl

theorem load40 {w : World} {g : Nat} {x y z p c : Value} (h : w.heap[g]? = some (.cells #[x, y, z, p, c] 40 (0, 0))) : (loadVar 40 ⟨g, 0, none⟩).run Tryz.prog w = .ok (.agg #[x, y, z, p, c]) w := by
  have c0 : w.cell? ⟨g, 0, none⟩ = some x := by rw [cell_of_row _ _ _ _ _ _ h]; rfl
  have c1 : w.cell? ⟨g, 1, none⟩ = some y := by rw [cell_of_row _ _ _ _ _ _ h]; rfl
  have c2 : w.cell? ⟨g, 2, none⟩ = some z := by rw [cell_of_row _ _ _ _ _ _ h]; rfl
  have c3 : w.cell? ⟨g, 3, none⟩ = some p := by rw [cell_of_row _ _ _ _ _ _ h]; rfl
  have c4 : w.cell? ⟨g, 4, none⟩ = some c := by rw [cell_of_row _ _ _ _ _ _ h]; rfl
  simp [go_sem, c0, c1, c2, c3, c4]

theorem view_nil (w : World) : Calls Tryz.prog 13 #[.pointer none, .slice none 0 0] w (SayPost w (.tuple #[.agg #[.slice none 0 0, .slice none 0 0, .slice none 0 0, .int .i64 0, .int .i64 0], .int .i64 2])) := by
  have K := fun u => mnodes_nil (.slice none 0 0) u
  have HF : Hid (Ext [] w ((w.alloc (.cells #[.pointer none] 22)).alloc (.cells #[.slice none 0 0, .slice none 0 0, .slice none 0 0, .int .i64 0, .int .i64 0] 40)) ∧ ((w.alloc (.cells #[.pointer none] 22)).alloc (.cells #[.slice none 0 0, .slice none 0 0, .slice none 0 0, .int .i64 0, .int .i64 0] 40)).heap[w.heap.size + 1]? = some (.cells #[.slice none 0 0, .slice none 0 0, .slice none 0 0, .int .i64 0, .int .i64 0] 40 (0, 0))) :=
    ⟨(Ext.alloc [] _ _).trans (Ext.alloc [] _ _), hp_new (by simp)⟩
  go_enter Tryz.func13, Tryz.ntmps13
  go_wp2_with (first | (go_at_call 33; refine met (K _) ?_) | fail "no arm")
  have h5 := results_cell_tmp2 (P := Tryz.prog) (fn := Tryz.f13) (p := 4) (q := 5) (ty := 40) rfl
  refine bodyPost_ret (h5 _ _ ⟨w.heap.size + 1, 0, none⟩ _ ?_ (load40 HF.out.2)) rfl ⟨rfl, HF.out.1⟩
  rfl

/-! ### a memory that answers -/

theorem awake_alloc : (allocM (newM 1 5 x0) [false] 1 []).2 = (256, 0) := by decide
theorem mk_new {k : Nat} (_h : k ≤ 1024) (pc : Int) (b : Nat) (hb : b < 900000000000000000) : Mk (newM k pc x0) b := ⟨Co.iv_new _, fun _ _ e => (by cases e), (by simp only [newM]; omega), (by simp [newM]), fun _ _ e => (by cases e)⟩

theorem mawake_any (w : World) (hG : Gl w) : Calls Tryz.prog 17 #[] w (SayPost w (.bool true)) := by
  have K := mnew_ok 1 5 w (by omega)
  have HA : Hid (∀ w1 p, Mw w1 p (newM 1 5 x0) (fun b => w.heap.size ≤ b) → Ext [] w w1 → Calls Tryz.prog 9 #[.pointer (some ⟨p, 0, none⟩), .slice (some ⟨w1.heap.size, 0, none⟩) 1 1, .int .i64 1, .slice none 0 0] (w1.alloc (.cells #[.bool false] 4)) (fun e w' => e = .returned (.tuple #[.int .i64 256, .int .i64 0]) ∧ Ext [] w w')) := fun w1 p hm hE => by
    have hE2 := Ext.alloc [] w1 (.cells #[.bool false] 4)
    have hm2 := (hm.there.keep0 hE2)
    have hO : Co.Os (w1.alloc (.cells #[.bool false] 4)) (some ⟨w1.heap.size, 0, none⟩) [false] := Co.vs_new w1 4 [.bool false]
    have := malloc_any hm2 (b := 0) (mk_new (by omega) 5 _ (by omega)) (hG.keep0 (hE.trans hE2)) (by have := hG.lt; omega) (some ⟨w1.heap.size, 0, none⟩) 1 1 [false] hO rfl (by omega) (fun ad e => by cases e; exact ⟨by simp, by simp⟩) 1 none 0 0 [] (.inl rfl) rfl (by omega) (by simp) (by simp [newM])
    rw [awake_alloc] at this
    refine this.mono ?_
    rintro e w' ⟨rfl, _, hx⟩
    exact ⟨rfl, Fx.on (hE.trans hE2) hx (fun k hk => hk.1)⟩
  go_enter Tryz.func17, Tryz.ntmps17
  go_wp2_with (first | (go_at_call 51; refine K.mono ?_; clear K; rintro e w1 ⟨p, rfl, hm, hE⟩; have K2 := HA.out w1 p hm hE; clear hm hE HA) | (go_at_call 9; refine K2.mono ?_; clear K2; rintro e w2 ⟨rfl, hE⟩; have HE := hid hE; clear hE) | fail "no arm")
  go_ret
  exact ⟨rfl, HE.out⟩

end Go.Proofs.YtjbbomokgpoilaaGreatDoor
