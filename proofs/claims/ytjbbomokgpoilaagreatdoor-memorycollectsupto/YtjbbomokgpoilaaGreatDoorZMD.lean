/-
  MNew: joined by program; no statement is proved here.
-/
import Derived.Test.YtjbbomokgpoilaaGreatDoorZMC
import Derived.Test.YtjbbomokgpoilaaGreatDoorZHE
/-
  A new memory; no statement is proved here.
-/
namespace Go.Proofs.YtjbbomokgpoilaaGreatDoor
open Go.RowKit

theorem cnew_any (w : World) : Calls Tryz.prog 86 #[] w fun e w' => e = .returned (.pointer (some ⟨w.heap.size, 0, none⟩)) ∧ w' = w.alloc (.cells #[.slice none 0 0, .int .i64 0, .slice none 0 0, .int .i64 0, .int .i64 0, .int .i64 0, .int .i64 0] 74) := by
  go_enter Tryz.func86, Tryz.ntmps86
  go_wp2
  go_ret
  exact ⟨rfl, rfl⟩

theorem mnew_bad (k pc : Int) (w : World) (h : k < 0 ∨ 1024 < k) : Calls Tryz.prog 51 #[.int .i64 k, .int .i64 pc] w fun e w' => e = .returned (.tuple #[.pointer none, .int .i64 2]) ∧ w' = w := by
  have K := hnew_bad k w h
  go_enter Tryz.func51, Tryz.ntmps51
  go_wp2_with (first | (go_at_call 85; refine met K ?_) | fail "no arm")
  go_ret2
  exact ⟨rfl, rfl⟩

/-- Another block's heap. -/
theorem Hw.move {w w' : World} {h p : Nat} {cs : Array Value} {F : Nat → Prop} {H : Hs} {va V vb : Value} (hH : Hw w h 0 81 cs F H) (x : Ext [] w w') (hb : w.heap[h]? = some (.cells #[va, V, vb] 81 (0, 0))) {cs' : Array Value} (hp : w'.heap[p]? = some (.cells cs' 85 (0, 0))) (hz : 8 < cs'.size) (e7 : cs'[7]? = some va) (e8 : cs'[8]? = some V) (e9 : cs'[9]? = some vb) (hpF : ¬ F p) : Hw w' p 7 85 cs' F H := by
  obtain ⟨ag, og, V', sb, O, h1⟩ := hH.keep0 x
  obtain ⟨ag0, og0, V0, sb0, O0, h0⟩ := hH
  have hb1 := h1.box.at_
  rw [x.keep hb (by simp)] at hb1
  simp only [Option.some.injEq, Obj.cells.injEq, and_true] at hb1
  have hsz := h1.box.sz
  have eV : V' = V := by
    have := congrArg (fun c : Array Value => c[1]?) hb1
    simp only [Array.getElem?_setIfInBounds] at this
    rw [if_pos trivial, if_pos (by omega)] at this
    simpa using this.symm
  have ea : cs[0]? = some va := by
    have := congrArg (fun c : Array Value => c[0]?) hb1
    simp only [Array.getElem?_setIfInBounds] at this
    rw [if_neg (by omega)] at this
    simpa using this.symm
  have eb : cs[2]? = some vb := by
    have := congrArg (fun c : Array Value => c[2]?) hb1
    simp only [Array.getElem?_setIfInBounds] at this
    rw [if_neg (by omega)] at this
    simpa using this.symm
  refine ⟨ag, og, V', sb, O, ⟨?_, hz, by decide⟩, by decide, ?_, ?_, h1.bytes, h1.runs, h1.owners, h1.olen, h1.own, h1.spans, h1.inj, h1.fa, h1.fo, h1.fv, h1.fs, hpF, h1.ok⟩
  · rw [hp]
    congr 2
    apply Array.ext_getElem?
    intro i
    rw [Array.getElem?_setIfInBounds]
    by_cases e : 7 + 1 = i
    · subst e; rw [if_pos rfl, if_pos (by omega), eV]; exact e8
    · rw [if_neg e]
  · rw [e7, ← ea]; exact h1.ca
  · have e9' : cs'[7 + 2]? = some vb := e9
    rw [e9', ← eb]; exact h1.co

theorem hp_new {w : World} {o : Obj} {k : Nat} (hk : w.heap.size = k) : (w.alloc o).heap[k]? = some o := by subst hk; exact heap_alloc_new w o
theorem hp_old {w : World} {o o' : Obj} {k : Nat} (h : w.heap[k]? = some o) : (w.alloc o').heap[k]? = some o := (Ext.alloc [] w o').keep h (by simp)

theorem wpAnyH_more {P : Program} {md : Region.Mode} {ops : Array Oper} {Q : Exit → Act → World → Prop} {S S' : World → Prop} (hs : ∀ w, S' w → S w) : ∀ (fuel : Nat) (listed : Array Bool) (a : Act) (w : World), wpAnyH P md ops Q S' fuel listed a w → wpAnyH P md ops Q S fuel listed a w
  | 0, _, _, _, h => h
  | fuel + 1, _, _, _, h => ⟨h.1, fun i hi => wpOp_mono (fun a' w' h' => ⟨hs w' h'.1, wpAnyH_more hs fuel _ a' w' h'.2⟩) (h.2 i hi)⟩

/-- A new memory. -/
def newM (k : Nat) (pc : Int) (X : Co.Fo) : Ms := ⟨⟨[], 0, [], 0, 0, 0, 0, X⟩, newH k, fun _ => none, fun _ => none, pc, 0, 0⟩
def x0 : Co.Fo := ⟨undef, undef, undef, undef, undef, undef, undef⟩

def MNewPost (w : World) (k : Nat) (pc : Int) (e : Ending) (w' : World) : Prop :=
  ∃ p, e = .returned (.tuple #[.pointer (some ⟨p, 0, none⟩), .int .i64 0]) ∧ Mw w' p (newM k pc x0) (fun b => w.heap.size ≤ b) ∧ Ext [] w w'

theorem Mp.mk0 {w : World} {b : Nat} (h : w.heap[b]? = some (.map #[] 0)) : Mp w b 0 (fun _ => none) := by
  obtain ⟨D, ⟨es, clock, h1, h2⟩, h3⟩ := Mp.new w
  have h4 := heap_alloc_new w (.map #[] 0)
  rw [h1] at h4
  simp only [Option.some.injEq, Obj.map.injEq] at h4
  obtain ⟨rfl, rfl⟩ := h4
  exact ⟨D, ⟨_, _, h, h2⟩, h3⟩

open Classical in
/-- The classes of a new memory's blocks. -/
noncomputable def clZ (p bo ba : Nat) (F : Nat → Prop) : Nat → Nat := fun b => if b = p then 1 else if b = bo then 4 else if b = ba then 5 else if F b then 2 else 0

theorem new_mw {w w1 W : World} {hh k bo ba : Nat} {pc : Int} {cs : Array Value} {F : Nat → Prop} {va V vb : Value} (hH : Hw w1 hh 0 81 cs F (newH k)) (hF : ∀ b, F b → w.heap.size ≤ b) (hE : Ext [] w w1) (hc : w1.heap[hh]? = some (.cells #[va, V, vb] 81 (0, 0))) (hEW : Ext [] w1 W)
    (hpW : W.heap[w1.heap.size + 3]? = some (.cells #[.slice none 0 0, .int .i64 0, .slice none 0 0, .int .i64 0, .int .i64 0, .int .i64 0, .int .i64 0, va, V, vb, .map (some bo), .map (some ba), .int .i64 pc, .int .i64 0] 85 (0, 0)))
    (hbo : W.heap[bo]? = some (.map #[] 0)) (hba : W.heap[ba]? = some (.map #[] 0)) (hne : bo ≠ ba) (hl1 : w1.heap.size ≤ bo) (hl2 : w1.heap.size ≤ ba) (hbl : bo < w1.heap.size + 3) (hal : ba < w1.heap.size + 3) :
    MNewPost w k pc (.returned (.tuple #[.pointer (some ⟨w1.heap.size + 3, 0, none⟩), .int .i64 0])) W := by
  have hH' : Hw w1 hh 0 81 cs (fun b => F b ∧ b < w1.heap.size) (newH k) := by
    obtain ⟨ag, og, V', sb, O, h1⟩ := hH
    exact ⟨ag, og, V', sb, O, h1.there⟩
  have c1 : ∀ b, clZ (w1.heap.size + 3) bo ba (fun b => F b ∧ b < w1.heap.size) b = 2 ↔ F b ∧ b < w1.heap.size := fun b => by
    unfold clZ
    split
    · simp; intro; omega
    · split
      · simp; intro; omega
      · split
        · simp; intro; omega
        · split
          · rename_i q; exact ⟨fun _ => q, fun _ => rfl⟩
          · rename_i q; exact ⟨fun e => (by cases e), fun e => absurd e q⟩
  have cp : clZ (w1.heap.size + 3) bo ba (fun b => F b ∧ b < w1.heap.size) (w1.heap.size + 3) = 1 := if_pos rfl
  have cbo : clZ (w1.heap.size + 3) bo ba (fun b => F b ∧ b < w1.heap.size) bo = 4 := by unfold clZ; rw [if_neg (by omega), if_pos rfl]
  have cba : clZ (w1.heap.size + 3) bo ba (fun b => F b ∧ b < w1.heap.size) ba = 5 := by unfold clZ; rw [if_neg (by omega), if_neg (by omega), if_pos rfl]
  have cz : ∀ b, clZ (w1.heap.size + 3) bo ba (fun b => F b ∧ b < w1.heap.size) b ≠ 0 → w.heap.size ≤ b ∧ b < W.heap.size := fun b hb => by
    have := hE.size
    have := hEW.size
    have hpl := lt_of_heap hpW
    unfold clZ at hb
    split at hb
    · omega
    · split at hb
      · omega
      · split at hb
        · omega
        · split at hb
          · rename_i q; have := hF b q.1; omega
          · exact absurd rfl hb
  refine ⟨_, rfl, ⟨⟨va, V, vb, .map (some bo), .map (some ba), .int .i64 pc, .int .i64 0⟩, #[.slice none 0 0, .int .i64 0, .slice none 0 0, .int .i64 0, .int .i64 0, .int .i64 0, .int .i64 0, va, V, vb, .map (some bo), .map (some ba), .int .i64 pc, .int .i64 0], clZ (w1.heap.size + 3) bo ba (fun b => F b ∧ b < w1.heap.size), bo, ba, fun _ => none, ⟨?_, ?_, rfl, rfl, rfl, rfl, Mp.mk0 hbo, Mp.mk0 hba, cbo, cba, fun b hb => (cz b hb).2, fun a o ho => (by cases ho), fun _ _ => rfl⟩, fun b hb => (cz b hb).1⟩, hE.trans hEW⟩
  · refine ⟨.slice none 0 0, .slice none 0 0, [], ⟨hpW, Co.own_nil _ _ _ _, .inl ⟨rfl, rfl⟩, rfl, fun i hi => by simp [newM, Co.Gs.wx] at hi, fun i j _ g hg => ?_, fun i g hg => ?_⟩, cp, fun g hg => ?_, fun g hg => ?_, fun i g hg => ?_⟩
    · simp [Co.svAt, Value.ownBlock] at hg
    · simp [Co.svAt, Value.ownBlock] at hg
    · simp [Value.ownBlock] at hg
    · simp [Value.ownBlock] at hg
    · simp [Co.svAt, Value.ownBlock] at hg
  · have h2 := Hw.move hH' hEW hc hpW (by simp) rfl rfl rfl (by omega)
    obtain ⟨ag, og, V', sb, O, h2⟩ := h2
    exact ⟨ag, og, V', sb, O, h2.foot (fun b hb => (c1 b).2 hb) (by rw [cp]; decide)⟩

set_option maxRecDepth 100000 in
set_option maxHeartbeats 8000000 in
theorem mnew_ok (k : Nat) (pc : Int) (w : World) (h : k ≤ 1024) : Calls Tryz.prog 51 #[.int .i64 k, .int .i64 pc] w (MNewPost w k pc) := by
  have K := hnew_ok k w h
  have hmm := @run_makeMap Tryz.prog
  go_enter Tryz.func51, Tryz.ntmps51
  go_upto_region 4 with (first | (go_at_call 85; refine K.mono ?_; clear K; rintro e w1 ⟨hh, cs, F, rfl, hH, hhl, hF, hcs, hE⟩) | fail "no arm")
  have hc : ∃ va V vb, w1.heap[hh]? = some (.cells #[va, V, vb] 81 (0, 0)) := by
    obtain ⟨ag, og, V, sb, O, h1⟩ := hH
    have := h1.box.at_
    refine ⟨(cs.setIfInBounds (0 + 1) V)[0]'(by simp; omega), (cs.setIfInBounds (0 + 1) V)[1]'(by simp; omega), (cs.setIfInBounds (0 + 1) V)[2]'(by simp; omega), ?_⟩
    rw [this]
    congr 2
    apply Array.ext (by simpa using hcs)
    intro i q1 q2
    rcases i with _ | _ | _ | i
    · rfl
    · rfl
    · rfl
    · simp at q2; omega
  obtain ⟨va, V, vb, hc⟩ := hc
  have c0 : w1.cell? ⟨hh, 0, none⟩ = some va := by rw [cell_of_row _ _ _ _ _ _ hc]; rfl
  have c1 : w1.cell? ⟨hh, 1, none⟩ = some V := by rw [cell_of_row _ _ _ _ _ _ hc]; rfl
  have c2 : w1.cell? ⟨hh, 2, none⟩ = some vb := by rw [cell_of_row _ _ _ _ _ _ hc]; rfl
  have HFin : Hid (∀ (wF : World) (bo ba : Nat), Ext [] w1 wF → wF.heap.size = w1.heap.size + 3 → wF.heap[bo]? = some (.map #[] 0) → wF.heap[ba]? = some (.map #[] 0) → bo ≠ ba → w1.heap.size ≤ bo → w1.heap.size ≤ ba → ∀ W, W = (wF.alloc (.cells #[.slice none 0 0, .int .i64 0, .slice none 0 0, .int .i64 0, .int .i64 0, .int .i64 0, .int .i64 0, va, V, vb, .map (some bo), .map (some ba), .int .i64 pc, .int .i64 0] 85)).drew → MNewPost w k pc (.returned (.tuple #[.pointer (some ⟨w1.heap.size + 3, 0, none⟩), .int .i64 0])) W) := by
    intro wF bo ba hEF hsz hbo hba hne hl1 hl2 W hW
    subst hW
    have hEW : Ext [] w1 (wF.alloc (.cells #[.slice none 0 0, .int .i64 0, .slice none 0 0, .int .i64 0, .int .i64 0, .int .i64 0, .int .i64 0, va, V, vb, .map (some bo), .map (some ba), .int .i64 pc, .int .i64 0] 85)).drew := (hEF.trans (Ext.alloc _ _ _)).trans (Ext.drew _ _)
    have hpW : (wF.alloc (.cells #[.slice none 0 0, .int .i64 0, .slice none 0 0, .int .i64 0, .int .i64 0, .int .i64 0, .int .i64 0, va, V, vb, .map (some bo), .map (some ba), .int .i64 pc, .int .i64 0] 85)).drew.heap[w1.heap.size + 3]? = some (.cells #[.slice none 0 0, .int .i64 0, .slice none 0 0, .int .i64 0, .int .i64 0, .int .i64 0, .int .i64 0, va, V, vb, .map (some bo), .map (some ba), .int .i64 pc, .int .i64 0] 85 (0, 0)) := hp_new hsz
    have hboW : (wF.alloc (.cells #[.slice none 0 0, .int .i64 0, .slice none 0 0, .int .i64 0, .int .i64 0, .int .i64 0, .int .i64 0, va, V, vb, .map (some bo), .map (some ba), .int .i64 pc, .int .i64 0] 85)).drew.heap[bo]? = some (.map #[] 0) := hp_old hbo
    have hbaW : (wF.alloc (.cells #[.slice none 0 0, .int .i64 0, .slice none 0 0, .int .i64 0, .int .i64 0, .int .i64 0, .int .i64 0, va, V, vb, .map (some bo), .map (some ba), .int .i64 pc, .int .i64 0] 85)).drew.heap[ba]? = some (.map #[] 0) := hp_old hba
    have hbl := lt_of_heap hbo
    have hal := lt_of_heap hba
    rw [hsz] at hbl hal
    generalize (wF.alloc (.cells #[.slice none 0 0, .int .i64 0, .slice none 0 0, .int .i64 0, .int .i64 0, .int .i64 0, .int .i64 0, va, V, vb, .map (some bo), .map (some ba), .int .i64 pc, .int .i64 0] 85)).drew = W at *
    exact new_mw hH hF hE hc hEW hpW hboW hbaW hne hl1 hl2 hbl hal
  have HX := hid (And.intro hH (And.intro hF hE))
  clear hH hF hE hcs
  refine wp_region_held_drew (S := fun w' => w'.cell? ⟨hh, 0, none⟩ = some va ∧ w'.cell? ⟨hh, 1, none⟩ = some V ∧ w'.cell? ⟨hh, 2, none⟩ = some vb) (by kernel_rfl) ⟨c0, c1, c2⟩ (fun hHeld => ?_)
  refine wpAnyH_take (i := 3) (oi := { dst := some 19, op := _, type := _, pos := _, after := _, guard := _ }) (v := .pointer (some ⟨hh, 0, none⟩)) rfl (by kernel_rfl) (by kernel_rfl) (by kernel_rfl) (fun _ _ _ h => h) (Or.inl ⟨by rfl, ?_⟩) (by assumption) ?_
  · intro w hSw
    (try dsimp only at hSw)
    first | (go_simp; done) | (go_simp; with_reducible rfl)
  (try simp only [Act.put, List.setIfInBounds_toArray, List.set_cons_zero, List.set_cons_succ])
  refine wpAnyH_take (i := 4) (oi := { dst := some 20, op := _, type := _, pos := _, after := _, guard := _ }) (v := .pointer (some ⟨hh, 0, none⟩)) rfl (by kernel_rfl) (by kernel_rfl) (by kernel_rfl) (fun _ _ _ h => h) (Or.inl ⟨by rfl, ?_⟩) (by assumption) ?_
  · intro w hSw
    (try dsimp only at hSw)
    first | (go_simp; done) | (go_simp; with_reducible rfl)
  (try simp only [Act.put, List.setIfInBounds_toArray, List.set_cons_zero, List.set_cons_succ])
  refine wpAnyH_take (i := 5) (oi := { dst := some 21, op := _, type := _, pos := _, after := _, guard := _ }) (v := .agg #[va, V, vb]) rfl (by kernel_rfl) (by kernel_rfl) (by kernel_rfl) (fun _ _ _ h => h) (Or.inl ⟨by rfl, ?_⟩) (by assumption) ?_
  · intro w hSw
    (try dsimp only at hSw)
    first | (go_simp; done) | (go_simp; with_reducible rfl)
  (try simp only [Act.put, List.setIfInBounds_toArray, List.set_cons_zero, List.set_cons_succ])
  refine wpAnyH_take (i := 8) (oi := { dst := some 24, op := _, type := _, pos := _, after := _, guard := _ }) (v := .int .i64 pc) rfl (by kernel_rfl) (by kernel_rfl) (by kernel_rfl) (fun _ _ _ h => h) (Or.inl ⟨by rfl, ?_⟩) (by assumption) ?_
  · intro w hSw
    (try dsimp only at hSw)
    first | (go_simp; done) | (go_simp; with_reducible rfl)
  (try simp only [Act.put, List.setIfInBounds_toArray, List.set_cons_zero, List.set_cons_succ])
  refine wpAnyH_ready (rs := [0, 6, 7]) (by kernel_rfl) (by simp) ?_
  refine AllReadyH.cons (o := { dst := some 16, op := _, type := _, pos := _, after := _, guard := _ }) rfl (fun K hK => ?_) ?_
  · go_simp
    refine Calls.mono (cnew_any _) ?_
    rintro e wg ⟨rfl, rfl⟩
    go_wp2_with fail
    refine hK.out _ _ ⟨Ext.cell (S := []) (by (repeat (first | (with_reducible exact Ext.refl [] _) | (with_reducible exact Ext.drew [] _) | (with_reducible assumption) | (with_reducible refine Ext.trans ?_ (Ext.drew [] _)) | (with_reducible refine Ext.trans ?_ (Ext.alloc [] _ _))))) c0 (by simp), Ext.cell (S := []) (by (repeat (first | (with_reducible exact Ext.refl [] _) | (with_reducible exact Ext.drew [] _) | (with_reducible assumption) | (with_reducible refine Ext.trans ?_ (Ext.drew [] _)) | (with_reducible refine Ext.trans ?_ (Ext.alloc [] _ _))))) c1 (by simp), Ext.cell (S := []) (by (repeat (first | (with_reducible exact Ext.refl [] _) | (with_reducible exact Ext.drew [] _) | (with_reducible assumption) | (with_reducible refine Ext.trans ?_ (Ext.drew [] _)) | (with_reducible refine Ext.trans ?_ (Ext.alloc [] _ _))))) c2 (by simp)⟩ (fun hHeld => ?_)
    clear hK K
    (try simp only [Act.put, List.setIfInBounds_toArray, List.set_cons_zero, List.set_cons_succ])
    have zb : (w1.alloc (.cells #[.slice none 0 0, .int .i64 0, .slice none 0 0, .int .i64 0, .int .i64 0, .int .i64 0, .int .i64 0] 74)).heap[w1.heap.size]? = some (.cells #[.slice none 0 0, .int .i64 0, .slice none 0 0, .int .i64 0, .int .i64 0, .int .i64 0, .int .i64 0] 74 (0, 0)) := (hp_new rfl)
    have z0 : (w1.alloc (.cells #[.slice none 0 0, .int .i64 0, .slice none 0 0, .int .i64 0, .int .i64 0, .int .i64 0, .int .i64 0] 74)).cell? ⟨w1.heap.size, 0, none⟩ = some (.slice none 0 0) := by rw [cell_of_row _ _ _ _ _ _ zb]; rfl
    have z1 : (w1.alloc (.cells #[.slice none 0 0, .int .i64 0, .slice none 0 0, .int .i64 0, .int .i64 0, .int .i64 0, .int .i64 0] 74)).cell? ⟨w1.heap.size, 1, none⟩ = some (.int .i64 0) := by rw [cell_of_row _ _ _ _ _ _ zb]; rfl
    have z2 : (w1.alloc (.cells #[.slice none 0 0, .int .i64 0, .slice none 0 0, .int .i64 0, .int .i64 0, .int .i64 0, .int .i64 0] 74)).cell? ⟨w1.heap.size, 2, none⟩ = some (.slice none 0 0) := by rw [cell_of_row _ _ _ _ _ _ zb]; rfl
    have z3 : (w1.alloc (.cells #[.slice none 0 0, .int .i64 0, .slice none 0 0, .int .i64 0, .int .i64 0, .int .i64 0, .int .i64 0] 74)).cell? ⟨w1.heap.size, 3, none⟩ = some (.int .i64 0) := by rw [cell_of_row _ _ _ _ _ _ zb]; rfl
    have z4 : (w1.alloc (.cells #[.slice none 0 0, .int .i64 0, .slice none 0 0, .int .i64 0, .int .i64 0, .int .i64 0, .int .i64 0] 74)).cell? ⟨w1.heap.size, 4, none⟩ = some (.int .i64 0) := by rw [cell_of_row _ _ _ _ _ _ zb]; rfl
    have z5 : (w1.alloc (.cells #[.slice none 0 0, .int .i64 0, .slice none 0 0, .int .i64 0, .int .i64 0, .int .i64 0, .int .i64 0] 74)).cell? ⟨w1.heap.size, 5, none⟩ = some (.int .i64 0) := by rw [cell_of_row _ _ _ _ _ _ zb]; rfl
    have z6 : (w1.alloc (.cells #[.slice none 0 0, .int .i64 0, .slice none 0 0, .int .i64 0, .int .i64 0, .int .i64 0, .int .i64 0] 74)).cell? ⟨w1.heap.size, 6, none⟩ = some (.int .i64 0) := by rw [cell_of_row _ _ _ _ _ _ zb]; rfl
    clear zb
    refine wpAnyH_more (S' := fun w' => (w'.cell? ⟨hh, 0, none⟩ = some va ∧ w'.cell? ⟨hh, 1, none⟩ = some V ∧ w'.cell? ⟨hh, 2, none⟩ = some vb) ∧ w'.cell? ⟨w1.heap.size, 0, none⟩ = some (.slice none 0 0) ∧ w'.cell? ⟨w1.heap.size, 1, none⟩ = some (.int .i64 0) ∧ w'.cell? ⟨w1.heap.size, 2, none⟩ = some (.slice none 0 0) ∧ w'.cell? ⟨w1.heap.size, 3, none⟩ = some (.int .i64 0) ∧ w'.cell? ⟨w1.heap.size, 4, none⟩ = some (.int .i64 0) ∧ w'.cell? ⟨w1.heap.size, 5, none⟩ = some (.int .i64 0) ∧ w'.cell? ⟨w1.heap.size, 6, none⟩ = some (.int .i64 0)) (fun _ h => h.1) _ _ _ _ ?_
    have hHeld1 : (fun w' => (w'.cell? ⟨hh, 0, none⟩ = some va ∧ w'.cell? ⟨hh, 1, none⟩ = some V ∧ w'.cell? ⟨hh, 2, none⟩ = some vb) ∧ w'.cell? ⟨w1.heap.size, 0, none⟩ = some (.slice none 0 0) ∧ w'.cell? ⟨w1.heap.size, 1, none⟩ = some (.int .i64 0) ∧ w'.cell? ⟨w1.heap.size, 2, none⟩ = some (.slice none 0 0) ∧ w'.cell? ⟨w1.heap.size, 3, none⟩ = some (.int .i64 0) ∧ w'.cell? ⟨w1.heap.size, 4, none⟩ = some (.int .i64 0) ∧ w'.cell? ⟨w1.heap.size, 5, none⟩ = some (.int .i64 0) ∧ w'.cell? ⟨w1.heap.size, 6, none⟩ = some (.int .i64 0)) ((w1.alloc (.cells #[.slice none 0 0, .int .i64 0, .slice none 0 0, .int .i64 0, .int .i64 0, .int .i64 0, .int .i64 0] 74)).drew) := ⟨hHeld, z0, z1, z2, z3, z4, z5, z6⟩
    refine wpAnyH_take (i := 1) (oi := { dst := some 17, op := _, type := _, pos := _, after := _, guard := _ }) (v := .pointer (some ⟨w1.heap.size, 0, none⟩)) rfl (by kernel_rfl) (by kernel_rfl) (by kernel_rfl) (fun _ _ _ h => h) (Or.inl ⟨by rfl, ?_⟩) (by assumption) ?_
    · intro w hSw
      (try dsimp only at hSw)
      first | (go_simp; done) | (go_simp; with_reducible rfl)
    (try simp only [Act.put, List.setIfInBounds_toArray, List.set_cons_zero, List.set_cons_succ])
    refine wpAnyH_take (i := 2) (oi := { dst := some 18, op := _, type := _, pos := _, after := _, guard := _ }) (v := .agg #[.slice none 0 0, .int .i64 0, .slice none 0 0, .int .i64 0, .int .i64 0, .int .i64 0, .int .i64 0]) rfl (by kernel_rfl) (by kernel_rfl) (by kernel_rfl) (fun _ _ _ h => h) (Or.inl ⟨by rfl, ?_⟩) (by assumption) ?_
    · intro w hSw
      (try dsimp only at hSw)
      first | (go_simp; done) | (go_simp; with_reducible rfl)
    (try simp only [Act.put, List.setIfInBounds_toArray, List.set_cons_zero, List.set_cons_succ])
    refine wpAnyH_ready (rs := [6, 7]) (by kernel_rfl) (by simp) ?_
    refine AllReadyH.cons (o := { dst := some 22, op := _, type := _, pos := _, after := _, guard := _ }) rfl (fun K hK => ?_) ?_
    · go_simp
      refine hK.out _ _ ⟨⟨Ext.cell (S := []) (by (repeat (first | (with_reducible exact Ext.refl [] _) | (with_reducible exact Ext.drew [] _) | (with_reducible assumption) | (with_reducible refine Ext.trans ?_ (Ext.drew [] _)) | (with_reducible refine Ext.trans ?_ (Ext.alloc [] _ _))))) c0 (by simp), Ext.cell (S := []) (by (repeat (first | (with_reducible exact Ext.refl [] _) | (with_reducible exact Ext.drew [] _) | (with_reducible assumption) | (with_reducible refine Ext.trans ?_ (Ext.drew [] _)) | (with_reducible refine Ext.trans ?_ (Ext.alloc [] _ _))))) c1 (by simp), Ext.cell (S := []) (by (repeat (first | (with_reducible exact Ext.refl [] _) | (with_reducible exact Ext.drew [] _) | (with_reducible assumption) | (with_reducible refine Ext.trans ?_ (Ext.drew [] _)) | (with_reducible refine Ext.trans ?_ (Ext.alloc [] _ _))))) c2 (by simp)⟩, Ext.cell (S := []) (by (repeat (first | (with_reducible exact Ext.refl [] _) | (with_reducible exact Ext.drew [] _) | (with_reducible assumption) | (with_reducible refine Ext.trans ?_ (Ext.drew [] _)) | (with_reducible refine Ext.trans ?_ (Ext.alloc [] _ _))))) z0 (by simp), Ext.cell (S := []) (by (repeat (first | (with_reducible exact Ext.refl [] _) | (with_reducible exact Ext.drew [] _) | (with_reducible assumption) | (with_reducible refine Ext.trans ?_ (Ext.drew [] _)) | (with_reducible refine Ext.trans ?_ (Ext.alloc [] _ _))))) z1 (by simp), Ext.cell (S := []) (by (repeat (first | (with_reducible exact Ext.refl [] _) | (with_reducible exact Ext.drew [] _) | (with_reducible assumption) | (with_reducible refine Ext.trans ?_ (Ext.drew [] _)) | (with_reducible refine Ext.trans ?_ (Ext.alloc [] _ _))))) z2 (by simp), Ext.cell (S := []) (by (repeat (first | (with_reducible exact Ext.refl [] _) | (with_reducible exact Ext.drew [] _) | (with_reducible assumption) | (with_reducible refine Ext.trans ?_ (Ext.drew [] _)) | (with_reducible refine Ext.trans ?_ (Ext.alloc [] _ _))))) z3 (by simp), Ext.cell (S := []) (by (repeat (first | (with_reducible exact Ext.refl [] _) | (with_reducible exact Ext.drew [] _) | (with_reducible assumption) | (with_reducible refine Ext.trans ?_ (Ext.drew [] _)) | (with_reducible refine Ext.trans ?_ (Ext.alloc [] _ _))))) z4 (by simp), Ext.cell (S := []) (by (repeat (first | (with_reducible exact Ext.refl [] _) | (with_reducible exact Ext.drew [] _) | (with_reducible assumption) | (with_reducible refine Ext.trans ?_ (Ext.drew [] _)) | (with_reducible refine Ext.trans ?_ (Ext.alloc [] _ _))))) z5 (by simp), Ext.cell (S := []) (by (repeat (first | (with_reducible exact Ext.refl [] _) | (with_reducible exact Ext.drew [] _) | (with_reducible assumption) | (with_reducible refine Ext.trans ?_ (Ext.drew [] _)) | (with_reducible refine Ext.trans ?_ (Ext.alloc [] _ _))))) z6 (by simp)⟩ (fun hHeld => ?_)
      clear hK K
      (try simp only [Act.put, List.setIfInBounds_toArray, List.set_cons_zero, List.set_cons_succ])
      refine wpAnyH_ready (rs := [7]) (by kernel_rfl) (by simp) ?_
      refine AllReadyH.cons (o := { dst := some 23, op := _, type := _, pos := _, after := _, guard := _ }) rfl (fun K hK => ?_) ?_
      · go_simp
        refine hK.out _ _ ⟨⟨Ext.cell (S := []) (by (repeat (first | (with_reducible exact Ext.refl [] _) | (with_reducible exact Ext.drew [] _) | (with_reducible assumption) | (with_reducible refine Ext.trans ?_ (Ext.drew [] _)) | (with_reducible refine Ext.trans ?_ (Ext.alloc [] _ _))))) c0 (by simp), Ext.cell (S := []) (by (repeat (first | (with_reducible exact Ext.refl [] _) | (with_reducible exact Ext.drew [] _) | (with_reducible assumption) | (with_reducible refine Ext.trans ?_ (Ext.drew [] _)) | (with_reducible refine Ext.trans ?_ (Ext.alloc [] _ _))))) c1 (by simp), Ext.cell (S := []) (by (repeat (first | (with_reducible exact Ext.refl [] _) | (with_reducible exact Ext.drew [] _) | (with_reducible assumption) | (with_reducible refine Ext.trans ?_ (Ext.drew [] _)) | (with_reducible refine Ext.trans ?_ (Ext.alloc [] _ _))))) c2 (by simp)⟩, Ext.cell (S := []) (by (repeat (first | (with_reducible exact Ext.refl [] _) | (with_reducible exact Ext.drew [] _) | (with_reducible assumption) | (with_reducible refine Ext.trans ?_ (Ext.drew [] _)) | (with_reducible refine Ext.trans ?_ (Ext.alloc [] _ _))))) z0 (by simp), Ext.cell (S := []) (by (repeat (first | (with_reducible exact Ext.refl [] _) | (with_reducible exact Ext.drew [] _) | (with_reducible assumption) | (with_reducible refine Ext.trans ?_ (Ext.drew [] _)) | (with_reducible refine Ext.trans ?_ (Ext.alloc [] _ _))))) z1 (by simp), Ext.cell (S := []) (by (repeat (first | (with_reducible exact Ext.refl [] _) | (with_reducible exact Ext.drew [] _) | (with_reducible assumption) | (with_reducible refine Ext.trans ?_ (Ext.drew [] _)) | (with_reducible refine Ext.trans ?_ (Ext.alloc [] _ _))))) z2 (by simp), Ext.cell (S := []) (by (repeat (first | (with_reducible exact Ext.refl [] _) | (with_reducible exact Ext.drew [] _) | (with_reducible assumption) | (with_reducible refine Ext.trans ?_ (Ext.drew [] _)) | (with_reducible refine Ext.trans ?_ (Ext.alloc [] _ _))))) z3 (by simp), Ext.cell (S := []) (by (repeat (first | (with_reducible exact Ext.refl [] _) | (with_reducible exact Ext.drew [] _) | (with_reducible assumption) | (with_reducible refine Ext.trans ?_ (Ext.drew [] _)) | (with_reducible refine Ext.trans ?_ (Ext.alloc [] _ _))))) z4 (by simp), Ext.cell (S := []) (by (repeat (first | (with_reducible exact Ext.refl [] _) | (with_reducible exact Ext.drew [] _) | (with_reducible assumption) | (with_reducible refine Ext.trans ?_ (Ext.drew [] _)) | (with_reducible refine Ext.trans ?_ (Ext.alloc [] _ _))))) z5 (by simp), Ext.cell (S := []) (by (repeat (first | (with_reducible exact Ext.refl [] _) | (with_reducible exact Ext.drew [] _) | (with_reducible assumption) | (with_reducible refine Ext.trans ?_ (Ext.drew [] _)) | (with_reducible refine Ext.trans ?_ (Ext.alloc [] _ _))))) z6 (by simp)⟩ (fun hHeld => ?_)
        clear hK K
        (try simp only [Act.put, List.setIfInBounds_toArray, List.set_cons_zero, List.set_cons_succ])
        refine wpAnyH_take (i := 9) (oi := { dst := some 25, op := _, type := _, pos := _, after := _, guard := _ }) (v := .agg #[.slice none 0 0, .int .i64 0, .slice none 0 0, .int .i64 0, .int .i64 0, .int .i64 0, .int .i64 0, va, V, vb, .map (some (w1.heap.size + 1)), .map (some (w1.heap.size + 2)), .int .i64 pc, .int .i64 0]) rfl (by kernel_rfl) (by kernel_rfl) (by kernel_rfl) (fun _ _ _ h => h) (Or.inl ⟨by rfl, ?_⟩) (by assumption) ?_
        · intro w hSw
          (try dsimp only at hSw)
          first | (go_simp; done) | (go_simp; with_reducible rfl)
        (try simp only [Act.put, List.setIfInBounds_toArray, List.set_cons_zero, List.set_cons_succ])
        refine wpAnyH_ready (rs := [10]) (by kernel_rfl) (by simp) ?_
        refine AllReadyH.cons (o := { dst := some 26, op := _, type := _, pos := _, after := _, guard := _ }) rfl (fun K hK => ?_) ?_
        · go_simp
          refine hK.out _ _ ⟨⟨Ext.cell (S := []) (by (repeat (first | (with_reducible exact Ext.refl [] _) | (with_reducible exact Ext.drew [] _) | (with_reducible assumption) | (with_reducible refine Ext.trans ?_ (Ext.drew [] _)) | (with_reducible refine Ext.trans ?_ (Ext.alloc [] _ _))))) c0 (by simp), Ext.cell (S := []) (by (repeat (first | (with_reducible exact Ext.refl [] _) | (with_reducible exact Ext.drew [] _) | (with_reducible assumption) | (with_reducible refine Ext.trans ?_ (Ext.drew [] _)) | (with_reducible refine Ext.trans ?_ (Ext.alloc [] _ _))))) c1 (by simp), Ext.cell (S := []) (by (repeat (first | (with_reducible exact Ext.refl [] _) | (with_reducible exact Ext.drew [] _) | (with_reducible assumption) | (with_reducible refine Ext.trans ?_ (Ext.drew [] _)) | (with_reducible refine Ext.trans ?_ (Ext.alloc [] _ _))))) c2 (by simp)⟩, Ext.cell (S := []) (by (repeat (first | (with_reducible exact Ext.refl [] _) | (with_reducible exact Ext.drew [] _) | (with_reducible assumption) | (with_reducible refine Ext.trans ?_ (Ext.drew [] _)) | (with_reducible refine Ext.trans ?_ (Ext.alloc [] _ _))))) z0 (by simp), Ext.cell (S := []) (by (repeat (first | (with_reducible exact Ext.refl [] _) | (with_reducible exact Ext.drew [] _) | (with_reducible assumption) | (with_reducible refine Ext.trans ?_ (Ext.drew [] _)) | (with_reducible refine Ext.trans ?_ (Ext.alloc [] _ _))))) z1 (by simp), Ext.cell (S := []) (by (repeat (first | (with_reducible exact Ext.refl [] _) | (with_reducible exact Ext.drew [] _) | (with_reducible assumption) | (with_reducible refine Ext.trans ?_ (Ext.drew [] _)) | (with_reducible refine Ext.trans ?_ (Ext.alloc [] _ _))))) z2 (by simp), Ext.cell (S := []) (by (repeat (first | (with_reducible exact Ext.refl [] _) | (with_reducible exact Ext.drew [] _) | (with_reducible assumption) | (with_reducible refine Ext.trans ?_ (Ext.drew [] _)) | (with_reducible refine Ext.trans ?_ (Ext.alloc [] _ _))))) z3 (by simp), Ext.cell (S := []) (by (repeat (first | (with_reducible exact Ext.refl [] _) | (with_reducible exact Ext.drew [] _) | (with_reducible assumption) | (with_reducible refine Ext.trans ?_ (Ext.drew [] _)) | (with_reducible refine Ext.trans ?_ (Ext.alloc [] _ _))))) z4 (by simp), Ext.cell (S := []) (by (repeat (first | (with_reducible exact Ext.refl [] _) | (with_reducible exact Ext.drew [] _) | (with_reducible assumption) | (with_reducible refine Ext.trans ?_ (Ext.drew [] _)) | (with_reducible refine Ext.trans ?_ (Ext.alloc [] _ _))))) z5 (by simp), Ext.cell (S := []) (by (repeat (first | (with_reducible exact Ext.refl [] _) | (with_reducible exact Ext.drew [] _) | (with_reducible assumption) | (with_reducible refine Ext.trans ?_ (Ext.drew [] _)) | (with_reducible refine Ext.trans ?_ (Ext.alloc [] _ _))))) z6 (by simp)⟩ (fun hHeld => ?_)
          clear hK K
          (try simp only [Act.put, List.setIfInBounds_toArray, List.set_cons_zero, List.set_cons_succ])
          refine wpAnyH_take (i := 11) (oi := { dst := some 4, op := _, type := _, pos := _, after := _, guard := _ }) (v := .pointer (some ⟨(w1.heap.size + 3), 0, none⟩)) rfl (by kernel_rfl) (by kernel_rfl) (by kernel_rfl) (fun _ _ _ h => h) (Or.inl ⟨by rfl, ?_⟩) (by assumption) ?_
          · intro w hSw
            (try dsimp only at hSw)
            first | (go_simp; done) | (go_simp; with_reducible rfl)
          (try simp only [Act.put, List.setIfInBounds_toArray, List.set_cons_zero, List.set_cons_succ])
          refine wpAnyH_take (i := 12) (oi := { dst := some 5, op := _, type := _, pos := _, after := _, guard := _ }) (v := .int .i64 0) rfl (by kernel_rfl) (by kernel_rfl) (by kernel_rfl) (fun _ _ _ h => h) (Or.inl ⟨by rfl, ?_⟩) (by assumption) ?_
          · intro w hSw
            (try dsimp only at hSw)
            first | (go_simp; done) | (go_simp; with_reducible rfl)
          (try simp only [Act.put, List.setIfInBounds_toArray, List.set_cons_zero, List.set_cons_succ])
          refine wpAnyH_done (by kernel_rfl) ?_ _
          go_wp2_with fail
          go_ret2
          exact HFin.out (((w1.alloc (.cells #[.slice none 0 0, .int .i64 0, .slice none 0 0, .int .i64 0, .int .i64 0, .int .i64 0, .int .i64 0] 74)).alloc (.map #[] 0)).alloc (.map #[] 0)) (w1.heap.size + 1) (w1.heap.size + 2) (by (repeat (first | (with_reducible exact Ext.refl [] _) | (with_reducible exact Ext.drew [] _) | (with_reducible assumption) | (with_reducible refine Ext.trans ?_ (Ext.drew [] _)) | (with_reducible refine Ext.trans ?_ (Ext.alloc [] _ _))))) (by simp [World.size_alloc]) (hp_old (hp_new (by simp [World.size_alloc]))) (hp_new (by simp [World.size_alloc])) (by omega) (by omega) (by omega) _ rfl
        · exact AllReadyH.nil
      exact AllReadyH.nil
    refine AllReadyH.cons (o := { dst := some 23, op := _, type := _, pos := _, after := _, guard := _ }) rfl (fun K hK => ?_) ?_
    · go_simp
      refine hK.out _ _ ⟨⟨Ext.cell (S := []) (by (repeat (first | (with_reducible exact Ext.refl [] _) | (with_reducible exact Ext.drew [] _) | (with_reducible assumption) | (with_reducible refine Ext.trans ?_ (Ext.drew [] _)) | (with_reducible refine Ext.trans ?_ (Ext.alloc [] _ _))))) c0 (by simp), Ext.cell (S := []) (by (repeat (first | (with_reducible exact Ext.refl [] _) | (with_reducible exact Ext.drew [] _) | (with_reducible assumption) | (with_reducible refine Ext.trans ?_ (Ext.drew [] _)) | (with_reducible refine Ext.trans ?_ (Ext.alloc [] _ _))))) c1 (by simp), Ext.cell (S := []) (by (repeat (first | (with_reducible exact Ext.refl [] _) | (with_reducible exact Ext.drew [] _) | (with_reducible assumption) | (with_reducible refine Ext.trans ?_ (Ext.drew [] _)) | (with_reducible refine Ext.trans ?_ (Ext.alloc [] _ _))))) c2 (by simp)⟩, Ext.cell (S := []) (by (repeat (first | (with_reducible exact Ext.refl [] _) | (with_reducible exact Ext.drew [] _) | (with_reducible assumption) | (with_reducible refine Ext.trans ?_ (Ext.drew [] _)) | (with_reducible refine Ext.trans ?_ (Ext.alloc [] _ _))))) z0 (by simp), Ext.cell (S := []) (by (repeat (first | (with_reducible exact Ext.refl [] _) | (with_reducible exact Ext.drew [] _) | (with_reducible assumption) | (with_reducible refine Ext.trans ?_ (Ext.drew [] _)) | (with_reducible refine Ext.trans ?_ (Ext.alloc [] _ _))))) z1 (by simp), Ext.cell (S := []) (by (repeat (first | (with_reducible exact Ext.refl [] _) | (with_reducible exact Ext.drew [] _) | (with_reducible assumption) | (with_reducible refine Ext.trans ?_ (Ext.drew [] _)) | (with_reducible refine Ext.trans ?_ (Ext.alloc [] _ _))))) z2 (by simp), Ext.cell (S := []) (by (repeat (first | (with_reducible exact Ext.refl [] _) | (with_reducible exact Ext.drew [] _) | (with_reducible assumption) | (with_reducible refine Ext.trans ?_ (Ext.drew [] _)) | (with_reducible refine Ext.trans ?_ (Ext.alloc [] _ _))))) z3 (by simp), Ext.cell (S := []) (by (repeat (first | (with_reducible exact Ext.refl [] _) | (with_reducible exact Ext.drew [] _) | (with_reducible assumption) | (with_reducible refine Ext.trans ?_ (Ext.drew [] _)) | (with_reducible refine Ext.trans ?_ (Ext.alloc [] _ _))))) z4 (by simp), Ext.cell (S := []) (by (repeat (first | (with_reducible exact Ext.refl [] _) | (with_reducible exact Ext.drew [] _) | (with_reducible assumption) | (with_reducible refine Ext.trans ?_ (Ext.drew [] _)) | (with_reducible refine Ext.trans ?_ (Ext.alloc [] _ _))))) z5 (by simp), Ext.cell (S := []) (by (repeat (first | (with_reducible exact Ext.refl [] _) | (with_reducible exact Ext.drew [] _) | (with_reducible assumption) | (with_reducible refine Ext.trans ?_ (Ext.drew [] _)) | (with_reducible refine Ext.trans ?_ (Ext.alloc [] _ _))))) z6 (by simp)⟩ (fun hHeld => ?_)
      clear hK K
      (try simp only [Act.put, List.setIfInBounds_toArray, List.set_cons_zero, List.set_cons_succ])
      refine wpAnyH_ready (rs := [6]) (by kernel_rfl) (by simp) ?_
      refine AllReadyH.cons (o := { dst := some 22, op := _, type := _, pos := _, after := _, guard := _ }) rfl (fun K hK => ?_) ?_
      · go_simp
        refine hK.out _ _ ⟨⟨Ext.cell (S := []) (by (repeat (first | (with_reducible exact Ext.refl [] _) | (with_reducible exact Ext.drew [] _) | (with_reducible assumption) | (with_reducible refine Ext.trans ?_ (Ext.drew [] _)) | (with_reducible refine Ext.trans ?_ (Ext.alloc [] _ _))))) c0 (by simp), Ext.cell (S := []) (by (repeat (first | (with_reducible exact Ext.refl [] _) | (with_reducible exact Ext.drew [] _) | (with_reducible assumption) | (with_reducible refine Ext.trans ?_ (Ext.drew [] _)) | (with_reducible refine Ext.trans ?_ (Ext.alloc [] _ _))))) c1 (by simp), Ext.cell (S := []) (by (repeat (first | (with_reducible exact Ext.refl [] _) | (with_reducible exact Ext.drew [] _) | (with_reducible assumption) | (with_reducible refine Ext.trans ?_ (Ext.drew [] _)) | (with_reducible refine Ext.trans ?_ (Ext.alloc [] _ _))))) c2 (by simp)⟩, Ext.cell (S := []) (by (repeat (first | (with_reducible exact Ext.refl [] _) | (with_reducible exact Ext.drew [] _) | (with_reducible assumption) | (with_reducible refine Ext.trans ?_ (Ext.drew [] _)) | (with_reducible refine Ext.trans ?_ (Ext.alloc [] _ _))))) z0 (by simp), Ext.cell (S := []) (by (repeat (first | (with_reducible exact Ext.refl [] _) | (with_reducible exact Ext.drew [] _) | (with_reducible assumption) | (with_reducible refine Ext.trans ?_ (Ext.drew [] _)) | (with_reducible refine Ext.trans ?_ (Ext.alloc [] _ _))))) z1 (by simp), Ext.cell (S := []) (by (repeat (first | (with_reducible exact Ext.refl [] _) | (with_reducible exact Ext.drew [] _) | (with_reducible assumption) | (with_reducible refine Ext.trans ?_ (Ext.drew [] _)) | (with_reducible refine Ext.trans ?_ (Ext.alloc [] _ _))))) z2 (by simp), Ext.cell (S := []) (by (repeat (first | (with_reducible exact Ext.refl [] _) | (with_reducible exact Ext.drew [] _) | (with_reducible assumption) | (with_reducible refine Ext.trans ?_ (Ext.drew [] _)) | (with_reducible refine Ext.trans ?_ (Ext.alloc [] _ _))))) z3 (by simp), Ext.cell (S := []) (by (repeat (first | (with_reducible exact Ext.refl [] _) | (with_reducible exact Ext.drew [] _) | (with_reducible assumption) | (with_reducible refine Ext.trans ?_ (Ext.drew [] _)) | (with_reducible refine Ext.trans ?_ (Ext.alloc [] _ _))))) z4 (by simp), Ext.cell (S := []) (by (repeat (first | (with_reducible exact Ext.refl [] _) | (with_reducible exact Ext.drew [] _) | (with_reducible assumption) | (with_reducible refine Ext.trans ?_ (Ext.drew [] _)) | (with_reducible refine Ext.trans ?_ (Ext.alloc [] _ _))))) z5 (by simp), Ext.cell (S := []) (by (repeat (first | (with_reducible exact Ext.refl [] _) | (with_reducible exact Ext.drew [] _) | (with_reducible assumption) | (with_reducible refine Ext.trans ?_ (Ext.drew [] _)) | (with_reducible refine Ext.trans ?_ (Ext.alloc [] _ _))))) z6 (by simp)⟩ (fun hHeld => ?_)
        clear hK K
        (try simp only [Act.put, List.setIfInBounds_toArray, List.set_cons_zero, List.set_cons_succ])
        refine wpAnyH_take (i := 9) (oi := { dst := some 25, op := _, type := _, pos := _, after := _, guard := _ }) (v := .agg #[.slice none 0 0, .int .i64 0, .slice none 0 0, .int .i64 0, .int .i64 0, .int .i64 0, .int .i64 0, va, V, vb, .map (some (w1.heap.size + 2)), .map (some (w1.heap.size + 1)), .int .i64 pc, .int .i64 0]) rfl (by kernel_rfl) (by kernel_rfl) (by kernel_rfl) (fun _ _ _ h => h) (Or.inl ⟨by rfl, ?_⟩) (by assumption) ?_
        · intro w hSw
          (try dsimp only at hSw)
          first | (go_simp; done) | (go_simp; with_reducible rfl)
        (try simp only [Act.put, List.setIfInBounds_toArray, List.set_cons_zero, List.set_cons_succ])
        refine wpAnyH_ready (rs := [10]) (by kernel_rfl) (by simp) ?_
        refine AllReadyH.cons (o := { dst := some 26, op := _, type := _, pos := _, after := _, guard := _ }) rfl (fun K hK => ?_) ?_
        · go_simp
          refine hK.out _ _ ⟨⟨Ext.cell (S := []) (by (repeat (first | (with_reducible exact Ext.refl [] _) | (with_reducible exact Ext.drew [] _) | (with_reducible assumption) | (with_reducible refine Ext.trans ?_ (Ext.drew [] _)) | (with_reducible refine Ext.trans ?_ (Ext.alloc [] _ _))))) c0 (by simp), Ext.cell (S := []) (by (repeat (first | (with_reducible exact Ext.refl [] _) | (with_reducible exact Ext.drew [] _) | (with_reducible assumption) | (with_reducible refine Ext.trans ?_ (Ext.drew [] _)) | (with_reducible refine Ext.trans ?_ (Ext.alloc [] _ _))))) c1 (by simp), Ext.cell (S := []) (by (repeat (first | (with_reducible exact Ext.refl [] _) | (with_reducible exact Ext.drew [] _) | (with_reducible assumption) | (with_reducible refine Ext.trans ?_ (Ext.drew [] _)) | (with_reducible refine Ext.trans ?_ (Ext.alloc [] _ _))))) c2 (by simp)⟩, Ext.cell (S := []) (by (repeat (first | (with_reducible exact Ext.refl [] _) | (with_reducible exact Ext.drew [] _) | (with_reducible assumption) | (with_reducible refine Ext.trans ?_ (Ext.drew [] _)) | (with_reducible refine Ext.trans ?_ (Ext.alloc [] _ _))))) z0 (by simp), Ext.cell (S := []) (by (repeat (first | (with_reducible exact Ext.refl [] _) | (with_reducible exact Ext.drew [] _) | (with_reducible assumption) | (with_reducible refine Ext.trans ?_ (Ext.drew [] _)) | (with_reducible refine Ext.trans ?_ (Ext.alloc [] _ _))))) z1 (by simp), Ext.cell (S := []) (by (repeat (first | (with_reducible exact Ext.refl [] _) | (with_reducible exact Ext.drew [] _) | (with_reducible assumption) | (with_reducible refine Ext.trans ?_ (Ext.drew [] _)) | (with_reducible refine Ext.trans ?_ (Ext.alloc [] _ _))))) z2 (by simp), Ext.cell (S := []) (by (repeat (first | (with_reducible exact Ext.refl [] _) | (with_reducible exact Ext.drew [] _) | (with_reducible assumption) | (with_reducible refine Ext.trans ?_ (Ext.drew [] _)) | (with_reducible refine Ext.trans ?_ (Ext.alloc [] _ _))))) z3 (by simp), Ext.cell (S := []) (by (repeat (first | (with_reducible exact Ext.refl [] _) | (with_reducible exact Ext.drew [] _) | (with_reducible assumption) | (with_reducible refine Ext.trans ?_ (Ext.drew [] _)) | (with_reducible refine Ext.trans ?_ (Ext.alloc [] _ _))))) z4 (by simp), Ext.cell (S := []) (by (repeat (first | (with_reducible exact Ext.refl [] _) | (with_reducible exact Ext.drew [] _) | (with_reducible assumption) | (with_reducible refine Ext.trans ?_ (Ext.drew [] _)) | (with_reducible refine Ext.trans ?_ (Ext.alloc [] _ _))))) z5 (by simp), Ext.cell (S := []) (by (repeat (first | (with_reducible exact Ext.refl [] _) | (with_reducible exact Ext.drew [] _) | (with_reducible assumption) | (with_reducible refine Ext.trans ?_ (Ext.drew [] _)) | (with_reducible refine Ext.trans ?_ (Ext.alloc [] _ _))))) z6 (by simp)⟩ (fun hHeld => ?_)
          clear hK K
          (try simp only [Act.put, List.setIfInBounds_toArray, List.set_cons_zero, List.set_cons_succ])
          refine wpAnyH_take (i := 11) (oi := { dst := some 4, op := _, type := _, pos := _, after := _, guard := _ }) (v := .pointer (some ⟨(w1.heap.size + 3), 0, none⟩)) rfl (by kernel_rfl) (by kernel_rfl) (by kernel_rfl) (fun _ _ _ h => h) (Or.inl ⟨by rfl, ?_⟩) (by assumption) ?_
          · intro w hSw
            (try dsimp only at hSw)
            first | (go_simp; done) | (go_simp; with_reducible rfl)
          (try simp only [Act.put, List.setIfInBounds_toArray, List.set_cons_zero, List.set_cons_succ])
          refine wpAnyH_take (i := 12) (oi := { dst := some 5, op := _, type := _, pos := _, after := _, guard := _ }) (v := .int .i64 0) rfl (by kernel_rfl) (by kernel_rfl) (by kernel_rfl) (fun _ _ _ h => h) (Or.inl ⟨by rfl, ?_⟩) (by assumption) ?_
          · intro w hSw
            (try dsimp only at hSw)
            first | (go_simp; done) | (go_simp; with_reducible rfl)
          (try simp only [Act.put, List.setIfInBounds_toArray, List.set_cons_zero, List.set_cons_succ])
          refine wpAnyH_done (by kernel_rfl) ?_ _
          go_wp2_with fail
          go_ret2
          exact HFin.out (((w1.alloc (.cells #[.slice none 0 0, .int .i64 0, .slice none 0 0, .int .i64 0, .int .i64 0, .int .i64 0, .int .i64 0] 74)).alloc (.map #[] 0)).alloc (.map #[] 0)) (w1.heap.size + 2) (w1.heap.size + 1) (by (repeat (first | (with_reducible exact Ext.refl [] _) | (with_reducible exact Ext.drew [] _) | (with_reducible assumption) | (with_reducible refine Ext.trans ?_ (Ext.drew [] _)) | (with_reducible refine Ext.trans ?_ (Ext.alloc [] _ _))))) (by simp [World.size_alloc]) (hp_new (by simp [World.size_alloc])) (hp_old (hp_new (by simp [World.size_alloc]))) (by omega) (by omega) (by omega) _ rfl
        · exact AllReadyH.nil
      exact AllReadyH.nil
    exact AllReadyH.nil
  refine AllReadyH.cons (o := { dst := some 22, op := _, type := _, pos := _, after := _, guard := _ }) rfl (fun K hK => ?_) ?_
  · go_simp
    refine hK.out _ _ ⟨Ext.cell (S := []) (by (repeat (first | (with_reducible exact Ext.refl [] _) | (with_reducible exact Ext.drew [] _) | (with_reducible assumption) | (with_reducible refine Ext.trans ?_ (Ext.drew [] _)) | (with_reducible refine Ext.trans ?_ (Ext.alloc [] _ _))))) c0 (by simp), Ext.cell (S := []) (by (repeat (first | (with_reducible exact Ext.refl [] _) | (with_reducible exact Ext.drew [] _) | (with_reducible assumption) | (with_reducible refine Ext.trans ?_ (Ext.drew [] _)) | (with_reducible refine Ext.trans ?_ (Ext.alloc [] _ _))))) c1 (by simp), Ext.cell (S := []) (by (repeat (first | (with_reducible exact Ext.refl [] _) | (with_reducible exact Ext.drew [] _) | (with_reducible assumption) | (with_reducible refine Ext.trans ?_ (Ext.drew [] _)) | (with_reducible refine Ext.trans ?_ (Ext.alloc [] _ _))))) c2 (by simp)⟩ (fun hHeld => ?_)
    clear hK K
    (try simp only [Act.put, List.setIfInBounds_toArray, List.set_cons_zero, List.set_cons_succ])
    refine wpAnyH_ready (rs := [0, 7]) (by kernel_rfl) (by simp) ?_
    refine AllReadyH.cons (o := { dst := some 16, op := _, type := _, pos := _, after := _, guard := _ }) rfl (fun K hK => ?_) ?_
    · go_simp
      refine Calls.mono (cnew_any _) ?_
      rintro e wg ⟨rfl, rfl⟩
      go_wp2_with fail
      refine hK.out _ _ ⟨Ext.cell (S := []) (by (repeat (first | (with_reducible exact Ext.refl [] _) | (with_reducible exact Ext.drew [] _) | (with_reducible assumption) | (with_reducible refine Ext.trans ?_ (Ext.drew [] _)) | (with_reducible refine Ext.trans ?_ (Ext.alloc [] _ _))))) c0 (by simp), Ext.cell (S := []) (by (repeat (first | (with_reducible exact Ext.refl [] _) | (with_reducible exact Ext.drew [] _) | (with_reducible assumption) | (with_reducible refine Ext.trans ?_ (Ext.drew [] _)) | (with_reducible refine Ext.trans ?_ (Ext.alloc [] _ _))))) c1 (by simp), Ext.cell (S := []) (by (repeat (first | (with_reducible exact Ext.refl [] _) | (with_reducible exact Ext.drew [] _) | (with_reducible assumption) | (with_reducible refine Ext.trans ?_ (Ext.drew [] _)) | (with_reducible refine Ext.trans ?_ (Ext.alloc [] _ _))))) c2 (by simp)⟩ (fun hHeld => ?_)
      clear hK K
      (try simp only [Act.put, List.setIfInBounds_toArray, List.set_cons_zero, List.set_cons_succ])
      have zb : ((w1.alloc (.map #[] 0)).alloc (.cells #[.slice none 0 0, .int .i64 0, .slice none 0 0, .int .i64 0, .int .i64 0, .int .i64 0, .int .i64 0] 74)).heap[(w1.heap.size + 1)]? = some (.cells #[.slice none 0 0, .int .i64 0, .slice none 0 0, .int .i64 0, .int .i64 0, .int .i64 0, .int .i64 0] 74 (0, 0)) := (hp_new (by simp [World.size_alloc]))
      have z0 : ((w1.alloc (.map #[] 0)).alloc (.cells #[.slice none 0 0, .int .i64 0, .slice none 0 0, .int .i64 0, .int .i64 0, .int .i64 0, .int .i64 0] 74)).cell? ⟨(w1.heap.size + 1), 0, none⟩ = some (.slice none 0 0) := by rw [cell_of_row _ _ _ _ _ _ zb]; rfl
      have z1 : ((w1.alloc (.map #[] 0)).alloc (.cells #[.slice none 0 0, .int .i64 0, .slice none 0 0, .int .i64 0, .int .i64 0, .int .i64 0, .int .i64 0] 74)).cell? ⟨(w1.heap.size + 1), 1, none⟩ = some (.int .i64 0) := by rw [cell_of_row _ _ _ _ _ _ zb]; rfl
      have z2 : ((w1.alloc (.map #[] 0)).alloc (.cells #[.slice none 0 0, .int .i64 0, .slice none 0 0, .int .i64 0, .int .i64 0, .int .i64 0, .int .i64 0] 74)).cell? ⟨(w1.heap.size + 1), 2, none⟩ = some (.slice none 0 0) := by rw [cell_of_row _ _ _ _ _ _ zb]; rfl
      have z3 : ((w1.alloc (.map #[] 0)).alloc (.cells #[.slice none 0 0, .int .i64 0, .slice none 0 0, .int .i64 0, .int .i64 0, .int .i64 0, .int .i64 0] 74)).cell? ⟨(w1.heap.size + 1), 3, none⟩ = some (.int .i64 0) := by rw [cell_of_row _ _ _ _ _ _ zb]; rfl
      have z4 : ((w1.alloc (.map #[] 0)).alloc (.cells #[.slice none 0 0, .int .i64 0, .slice none 0 0, .int .i64 0, .int .i64 0, .int .i64 0, .int .i64 0] 74)).cell? ⟨(w1.heap.size + 1), 4, none⟩ = some (.int .i64 0) := by rw [cell_of_row _ _ _ _ _ _ zb]; rfl
      have z5 : ((w1.alloc (.map #[] 0)).alloc (.cells #[.slice none 0 0, .int .i64 0, .slice none 0 0, .int .i64 0, .int .i64 0, .int .i64 0, .int .i64 0] 74)).cell? ⟨(w1.heap.size + 1), 5, none⟩ = some (.int .i64 0) := by rw [cell_of_row _ _ _ _ _ _ zb]; rfl
      have z6 : ((w1.alloc (.map #[] 0)).alloc (.cells #[.slice none 0 0, .int .i64 0, .slice none 0 0, .int .i64 0, .int .i64 0, .int .i64 0, .int .i64 0] 74)).cell? ⟨(w1.heap.size + 1), 6, none⟩ = some (.int .i64 0) := by rw [cell_of_row _ _ _ _ _ _ zb]; rfl
      clear zb
      refine wpAnyH_more (S' := fun w' => (w'.cell? ⟨hh, 0, none⟩ = some va ∧ w'.cell? ⟨hh, 1, none⟩ = some V ∧ w'.cell? ⟨hh, 2, none⟩ = some vb) ∧ w'.cell? ⟨(w1.heap.size + 1), 0, none⟩ = some (.slice none 0 0) ∧ w'.cell? ⟨(w1.heap.size + 1), 1, none⟩ = some (.int .i64 0) ∧ w'.cell? ⟨(w1.heap.size + 1), 2, none⟩ = some (.slice none 0 0) ∧ w'.cell? ⟨(w1.heap.size + 1), 3, none⟩ = some (.int .i64 0) ∧ w'.cell? ⟨(w1.heap.size + 1), 4, none⟩ = some (.int .i64 0) ∧ w'.cell? ⟨(w1.heap.size + 1), 5, none⟩ = some (.int .i64 0) ∧ w'.cell? ⟨(w1.heap.size + 1), 6, none⟩ = some (.int .i64 0)) (fun _ h => h.1) _ _ _ _ ?_
      have hHeld1 : (fun w' => (w'.cell? ⟨hh, 0, none⟩ = some va ∧ w'.cell? ⟨hh, 1, none⟩ = some V ∧ w'.cell? ⟨hh, 2, none⟩ = some vb) ∧ w'.cell? ⟨(w1.heap.size + 1), 0, none⟩ = some (.slice none 0 0) ∧ w'.cell? ⟨(w1.heap.size + 1), 1, none⟩ = some (.int .i64 0) ∧ w'.cell? ⟨(w1.heap.size + 1), 2, none⟩ = some (.slice none 0 0) ∧ w'.cell? ⟨(w1.heap.size + 1), 3, none⟩ = some (.int .i64 0) ∧ w'.cell? ⟨(w1.heap.size + 1), 4, none⟩ = some (.int .i64 0) ∧ w'.cell? ⟨(w1.heap.size + 1), 5, none⟩ = some (.int .i64 0) ∧ w'.cell? ⟨(w1.heap.size + 1), 6, none⟩ = some (.int .i64 0)) (((w1.alloc (.map #[] 0)).alloc (.cells #[.slice none 0 0, .int .i64 0, .slice none 0 0, .int .i64 0, .int .i64 0, .int .i64 0, .int .i64 0] 74)).drew) := ⟨hHeld, z0, z1, z2, z3, z4, z5, z6⟩
      refine wpAnyH_take (i := 1) (oi := { dst := some 17, op := _, type := _, pos := _, after := _, guard := _ }) (v := .pointer (some ⟨(w1.heap.size + 1), 0, none⟩)) rfl (by kernel_rfl) (by kernel_rfl) (by kernel_rfl) (fun _ _ _ h => h) (Or.inl ⟨by rfl, ?_⟩) (by assumption) ?_
      · intro w hSw
        (try dsimp only at hSw)
        first | (go_simp; done) | (go_simp; with_reducible rfl)
      (try simp only [Act.put, List.setIfInBounds_toArray, List.set_cons_zero, List.set_cons_succ])
      refine wpAnyH_take (i := 2) (oi := { dst := some 18, op := _, type := _, pos := _, after := _, guard := _ }) (v := .agg #[.slice none 0 0, .int .i64 0, .slice none 0 0, .int .i64 0, .int .i64 0, .int .i64 0, .int .i64 0]) rfl (by kernel_rfl) (by kernel_rfl) (by kernel_rfl) (fun _ _ _ h => h) (Or.inl ⟨by rfl, ?_⟩) (by assumption) ?_
      · intro w hSw
        (try dsimp only at hSw)
        first | (go_simp; done) | (go_simp; with_reducible rfl)
      (try simp only [Act.put, List.setIfInBounds_toArray, List.set_cons_zero, List.set_cons_succ])
      refine wpAnyH_ready (rs := [7]) (by kernel_rfl) (by simp) ?_
      refine AllReadyH.cons (o := { dst := some 23, op := _, type := _, pos := _, after := _, guard := _ }) rfl (fun K hK => ?_) ?_
      · go_simp
        refine hK.out _ _ ⟨⟨Ext.cell (S := []) (by (repeat (first | (with_reducible exact Ext.refl [] _) | (with_reducible exact Ext.drew [] _) | (with_reducible assumption) | (with_reducible refine Ext.trans ?_ (Ext.drew [] _)) | (with_reducible refine Ext.trans ?_ (Ext.alloc [] _ _))))) c0 (by simp), Ext.cell (S := []) (by (repeat (first | (with_reducible exact Ext.refl [] _) | (with_reducible exact Ext.drew [] _) | (with_reducible assumption) | (with_reducible refine Ext.trans ?_ (Ext.drew [] _)) | (with_reducible refine Ext.trans ?_ (Ext.alloc [] _ _))))) c1 (by simp), Ext.cell (S := []) (by (repeat (first | (with_reducible exact Ext.refl [] _) | (with_reducible exact Ext.drew [] _) | (with_reducible assumption) | (with_reducible refine Ext.trans ?_ (Ext.drew [] _)) | (with_reducible refine Ext.trans ?_ (Ext.alloc [] _ _))))) c2 (by simp)⟩, Ext.cell (S := []) (by (repeat (first | (with_reducible exact Ext.refl [] _) | (with_reducible exact Ext.drew [] _) | (with_reducible assumption) | (with_reducible refine Ext.trans ?_ (Ext.drew [] _)) | (with_reducible refine Ext.trans ?_ (Ext.alloc [] _ _))))) z0 (by simp), Ext.cell (S := []) (by (repeat (first | (with_reducible exact Ext.refl [] _) | (with_reducible exact Ext.drew [] _) | (with_reducible assumption) | (with_reducible refine Ext.trans ?_ (Ext.drew [] _)) | (with_reducible refine Ext.trans ?_ (Ext.alloc [] _ _))))) z1 (by simp), Ext.cell (S := []) (by (repeat (first | (with_reducible exact Ext.refl [] _) | (with_reducible exact Ext.drew [] _) | (with_reducible assumption) | (with_reducible refine Ext.trans ?_ (Ext.drew [] _)) | (with_reducible refine Ext.trans ?_ (Ext.alloc [] _ _))))) z2 (by simp), Ext.cell (S := []) (by (repeat (first | (with_reducible exact Ext.refl [] _) | (with_reducible exact Ext.drew [] _) | (with_reducible assumption) | (with_reducible refine Ext.trans ?_ (Ext.drew [] _)) | (with_reducible refine Ext.trans ?_ (Ext.alloc [] _ _))))) z3 (by simp), Ext.cell (S := []) (by (repeat (first | (with_reducible exact Ext.refl [] _) | (with_reducible exact Ext.drew [] _) | (with_reducible assumption) | (with_reducible refine Ext.trans ?_ (Ext.drew [] _)) | (with_reducible refine Ext.trans ?_ (Ext.alloc [] _ _))))) z4 (by simp), Ext.cell (S := []) (by (repeat (first | (with_reducible exact Ext.refl [] _) | (with_reducible exact Ext.drew [] _) | (with_reducible assumption) | (with_reducible refine Ext.trans ?_ (Ext.drew [] _)) | (with_reducible refine Ext.trans ?_ (Ext.alloc [] _ _))))) z5 (by simp), Ext.cell (S := []) (by (repeat (first | (with_reducible exact Ext.refl [] _) | (with_reducible exact Ext.drew [] _) | (with_reducible assumption) | (with_reducible refine Ext.trans ?_ (Ext.drew [] _)) | (with_reducible refine Ext.trans ?_ (Ext.alloc [] _ _))))) z6 (by simp)⟩ (fun hHeld => ?_)
        clear hK K
        (try simp only [Act.put, List.setIfInBounds_toArray, List.set_cons_zero, List.set_cons_succ])
        refine wpAnyH_take (i := 9) (oi := { dst := some 25, op := _, type := _, pos := _, after := _, guard := _ }) (v := .agg #[.slice none 0 0, .int .i64 0, .slice none 0 0, .int .i64 0, .int .i64 0, .int .i64 0, .int .i64 0, va, V, vb, .map (some w1.heap.size), .map (some (w1.heap.size + 2)), .int .i64 pc, .int .i64 0]) rfl (by kernel_rfl) (by kernel_rfl) (by kernel_rfl) (fun _ _ _ h => h) (Or.inl ⟨by rfl, ?_⟩) (by assumption) ?_
        · intro w hSw
          (try dsimp only at hSw)
          first | (go_simp; done) | (go_simp; with_reducible rfl)
        (try simp only [Act.put, List.setIfInBounds_toArray, List.set_cons_zero, List.set_cons_succ])
        refine wpAnyH_ready (rs := [10]) (by kernel_rfl) (by simp) ?_
        refine AllReadyH.cons (o := { dst := some 26, op := _, type := _, pos := _, after := _, guard := _ }) rfl (fun K hK => ?_) ?_
        · go_simp
          refine hK.out _ _ ⟨⟨Ext.cell (S := []) (by (repeat (first | (with_reducible exact Ext.refl [] _) | (with_reducible exact Ext.drew [] _) | (with_reducible assumption) | (with_reducible refine Ext.trans ?_ (Ext.drew [] _)) | (with_reducible refine Ext.trans ?_ (Ext.alloc [] _ _))))) c0 (by simp), Ext.cell (S := []) (by (repeat (first | (with_reducible exact Ext.refl [] _) | (with_reducible exact Ext.drew [] _) | (with_reducible assumption) | (with_reducible refine Ext.trans ?_ (Ext.drew [] _)) | (with_reducible refine Ext.trans ?_ (Ext.alloc [] _ _))))) c1 (by simp), Ext.cell (S := []) (by (repeat (first | (with_reducible exact Ext.refl [] _) | (with_reducible exact Ext.drew [] _) | (with_reducible assumption) | (with_reducible refine Ext.trans ?_ (Ext.drew [] _)) | (with_reducible refine Ext.trans ?_ (Ext.alloc [] _ _))))) c2 (by simp)⟩, Ext.cell (S := []) (by (repeat (first | (with_reducible exact Ext.refl [] _) | (with_reducible exact Ext.drew [] _) | (with_reducible assumption) | (with_reducible refine Ext.trans ?_ (Ext.drew [] _)) | (with_reducible refine Ext.trans ?_ (Ext.alloc [] _ _))))) z0 (by simp), Ext.cell (S := []) (by (repeat (first | (with_reducible exact Ext.refl [] _) | (with_reducible exact Ext.drew [] _) | (with_reducible assumption) | (with_reducible refine Ext.trans ?_ (Ext.drew [] _)) | (with_reducible refine Ext.trans ?_ (Ext.alloc [] _ _))))) z1 (by simp), Ext.cell (S := []) (by (repeat (first | (with_reducible exact Ext.refl [] _) | (with_reducible exact Ext.drew [] _) | (with_reducible assumption) | (with_reducible refine Ext.trans ?_ (Ext.drew [] _)) | (with_reducible refine Ext.trans ?_ (Ext.alloc [] _ _))))) z2 (by simp), Ext.cell (S := []) (by (repeat (first | (with_reducible exact Ext.refl [] _) | (with_reducible exact Ext.drew [] _) | (with_reducible assumption) | (with_reducible refine Ext.trans ?_ (Ext.drew [] _)) | (with_reducible refine Ext.trans ?_ (Ext.alloc [] _ _))))) z3 (by simp), Ext.cell (S := []) (by (repeat (first | (with_reducible exact Ext.refl [] _) | (with_reducible exact Ext.drew [] _) | (with_reducible assumption) | (with_reducible refine Ext.trans ?_ (Ext.drew [] _)) | (with_reducible refine Ext.trans ?_ (Ext.alloc [] _ _))))) z4 (by simp), Ext.cell (S := []) (by (repeat (first | (with_reducible exact Ext.refl [] _) | (with_reducible exact Ext.drew [] _) | (with_reducible assumption) | (with_reducible refine Ext.trans ?_ (Ext.drew [] _)) | (with_reducible refine Ext.trans ?_ (Ext.alloc [] _ _))))) z5 (by simp), Ext.cell (S := []) (by (repeat (first | (with_reducible exact Ext.refl [] _) | (with_reducible exact Ext.drew [] _) | (with_reducible assumption) | (with_reducible refine Ext.trans ?_ (Ext.drew [] _)) | (with_reducible refine Ext.trans ?_ (Ext.alloc [] _ _))))) z6 (by simp)⟩ (fun hHeld => ?_)
          clear hK K
          (try simp only [Act.put, List.setIfInBounds_toArray, List.set_cons_zero, List.set_cons_succ])
          refine wpAnyH_take (i := 11) (oi := { dst := some 4, op := _, type := _, pos := _, after := _, guard := _ }) (v := .pointer (some ⟨(w1.heap.size + 3), 0, none⟩)) rfl (by kernel_rfl) (by kernel_rfl) (by kernel_rfl) (fun _ _ _ h => h) (Or.inl ⟨by rfl, ?_⟩) (by assumption) ?_
          · intro w hSw
            (try dsimp only at hSw)
            first | (go_simp; done) | (go_simp; with_reducible rfl)
          (try simp only [Act.put, List.setIfInBounds_toArray, List.set_cons_zero, List.set_cons_succ])
          refine wpAnyH_take (i := 12) (oi := { dst := some 5, op := _, type := _, pos := _, after := _, guard := _ }) (v := .int .i64 0) rfl (by kernel_rfl) (by kernel_rfl) (by kernel_rfl) (fun _ _ _ h => h) (Or.inl ⟨by rfl, ?_⟩) (by assumption) ?_
          · intro w hSw
            (try dsimp only at hSw)
            first | (go_simp; done) | (go_simp; with_reducible rfl)
          (try simp only [Act.put, List.setIfInBounds_toArray, List.set_cons_zero, List.set_cons_succ])
          refine wpAnyH_done (by kernel_rfl) ?_ _
          go_wp2_with fail
          go_ret2
          exact HFin.out (((w1.alloc (.map #[] 0)).alloc (.cells #[.slice none 0 0, .int .i64 0, .slice none 0 0, .int .i64 0, .int .i64 0, .int .i64 0, .int .i64 0] 74)).alloc (.map #[] 0)) w1.heap.size (w1.heap.size + 2) (by (repeat (first | (with_reducible exact Ext.refl [] _) | (with_reducible exact Ext.drew [] _) | (with_reducible assumption) | (with_reducible refine Ext.trans ?_ (Ext.drew [] _)) | (with_reducible refine Ext.trans ?_ (Ext.alloc [] _ _))))) (by simp [World.size_alloc]) (hp_old (hp_old (hp_new rfl))) (hp_new (by simp [World.size_alloc])) (by omega) (by omega) (by omega) _ rfl
        · exact AllReadyH.nil
      exact AllReadyH.nil
    refine AllReadyH.cons (o := { dst := some 23, op := _, type := _, pos := _, after := _, guard := _ }) rfl (fun K hK => ?_) ?_
    · go_simp
      refine hK.out _ _ ⟨Ext.cell (S := []) (by (repeat (first | (with_reducible exact Ext.refl [] _) | (with_reducible exact Ext.drew [] _) | (with_reducible assumption) | (with_reducible refine Ext.trans ?_ (Ext.drew [] _)) | (with_reducible refine Ext.trans ?_ (Ext.alloc [] _ _))))) c0 (by simp), Ext.cell (S := []) (by (repeat (first | (with_reducible exact Ext.refl [] _) | (with_reducible exact Ext.drew [] _) | (with_reducible assumption) | (with_reducible refine Ext.trans ?_ (Ext.drew [] _)) | (with_reducible refine Ext.trans ?_ (Ext.alloc [] _ _))))) c1 (by simp), Ext.cell (S := []) (by (repeat (first | (with_reducible exact Ext.refl [] _) | (with_reducible exact Ext.drew [] _) | (with_reducible assumption) | (with_reducible refine Ext.trans ?_ (Ext.drew [] _)) | (with_reducible refine Ext.trans ?_ (Ext.alloc [] _ _))))) c2 (by simp)⟩ (fun hHeld => ?_)
      clear hK K
      (try simp only [Act.put, List.setIfInBounds_toArray, List.set_cons_zero, List.set_cons_succ])
      refine wpAnyH_ready (rs := [0]) (by kernel_rfl) (by simp) ?_
      refine AllReadyH.cons (o := { dst := some 16, op := _, type := _, pos := _, after := _, guard := _ }) rfl (fun K hK => ?_) ?_
      · go_simp
        refine Calls.mono (cnew_any _) ?_
        rintro e wg ⟨rfl, rfl⟩
        go_wp2_with fail
        refine hK.out _ _ ⟨Ext.cell (S := []) (by (repeat (first | (with_reducible exact Ext.refl [] _) | (with_reducible exact Ext.drew [] _) | (with_reducible assumption) | (with_reducible refine Ext.trans ?_ (Ext.drew [] _)) | (with_reducible refine Ext.trans ?_ (Ext.alloc [] _ _))))) c0 (by simp), Ext.cell (S := []) (by (repeat (first | (with_reducible exact Ext.refl [] _) | (with_reducible exact Ext.drew [] _) | (with_reducible assumption) | (with_reducible refine Ext.trans ?_ (Ext.drew [] _)) | (with_reducible refine Ext.trans ?_ (Ext.alloc [] _ _))))) c1 (by simp), Ext.cell (S := []) (by (repeat (first | (with_reducible exact Ext.refl [] _) | (with_reducible exact Ext.drew [] _) | (with_reducible assumption) | (with_reducible refine Ext.trans ?_ (Ext.drew [] _)) | (with_reducible refine Ext.trans ?_ (Ext.alloc [] _ _))))) c2 (by simp)⟩ (fun hHeld => ?_)
        clear hK K
        (try simp only [Act.put, List.setIfInBounds_toArray, List.set_cons_zero, List.set_cons_succ])
        have zb : (((w1.alloc (.map #[] 0)).alloc (.map #[] 0)).alloc (.cells #[.slice none 0 0, .int .i64 0, .slice none 0 0, .int .i64 0, .int .i64 0, .int .i64 0, .int .i64 0] 74)).heap[(w1.heap.size + 2)]? = some (.cells #[.slice none 0 0, .int .i64 0, .slice none 0 0, .int .i64 0, .int .i64 0, .int .i64 0, .int .i64 0] 74 (0, 0)) := (hp_new (by simp [World.size_alloc]))
        have z0 : (((w1.alloc (.map #[] 0)).alloc (.map #[] 0)).alloc (.cells #[.slice none 0 0, .int .i64 0, .slice none 0 0, .int .i64 0, .int .i64 0, .int .i64 0, .int .i64 0] 74)).cell? ⟨(w1.heap.size + 2), 0, none⟩ = some (.slice none 0 0) := by rw [cell_of_row _ _ _ _ _ _ zb]; rfl
        have z1 : (((w1.alloc (.map #[] 0)).alloc (.map #[] 0)).alloc (.cells #[.slice none 0 0, .int .i64 0, .slice none 0 0, .int .i64 0, .int .i64 0, .int .i64 0, .int .i64 0] 74)).cell? ⟨(w1.heap.size + 2), 1, none⟩ = some (.int .i64 0) := by rw [cell_of_row _ _ _ _ _ _ zb]; rfl
        have z2 : (((w1.alloc (.map #[] 0)).alloc (.map #[] 0)).alloc (.cells #[.slice none 0 0, .int .i64 0, .slice none 0 0, .int .i64 0, .int .i64 0, .int .i64 0, .int .i64 0] 74)).cell? ⟨(w1.heap.size + 2), 2, none⟩ = some (.slice none 0 0) := by rw [cell_of_row _ _ _ _ _ _ zb]; rfl
        have z3 : (((w1.alloc (.map #[] 0)).alloc (.map #[] 0)).alloc (.cells #[.slice none 0 0, .int .i64 0, .slice none 0 0, .int .i64 0, .int .i64 0, .int .i64 0, .int .i64 0] 74)).cell? ⟨(w1.heap.size + 2), 3, none⟩ = some (.int .i64 0) := by rw [cell_of_row _ _ _ _ _ _ zb]; rfl
        have z4 : (((w1.alloc (.map #[] 0)).alloc (.map #[] 0)).alloc (.cells #[.slice none 0 0, .int .i64 0, .slice none 0 0, .int .i64 0, .int .i64 0, .int .i64 0, .int .i64 0] 74)).cell? ⟨(w1.heap.size + 2), 4, none⟩ = some (.int .i64 0) := by rw [cell_of_row _ _ _ _ _ _ zb]; rfl
        have z5 : (((w1.alloc (.map #[] 0)).alloc (.map #[] 0)).alloc (.cells #[.slice none 0 0, .int .i64 0, .slice none 0 0, .int .i64 0, .int .i64 0, .int .i64 0, .int .i64 0] 74)).cell? ⟨(w1.heap.size + 2), 5, none⟩ = some (.int .i64 0) := by rw [cell_of_row _ _ _ _ _ _ zb]; rfl
        have z6 : (((w1.alloc (.map #[] 0)).alloc (.map #[] 0)).alloc (.cells #[.slice none 0 0, .int .i64 0, .slice none 0 0, .int .i64 0, .int .i64 0, .int .i64 0, .int .i64 0] 74)).cell? ⟨(w1.heap.size + 2), 6, none⟩ = some (.int .i64 0) := by rw [cell_of_row _ _ _ _ _ _ zb]; rfl
        clear zb
        refine wpAnyH_more (S' := fun w' => (w'.cell? ⟨hh, 0, none⟩ = some va ∧ w'.cell? ⟨hh, 1, none⟩ = some V ∧ w'.cell? ⟨hh, 2, none⟩ = some vb) ∧ w'.cell? ⟨(w1.heap.size + 2), 0, none⟩ = some (.slice none 0 0) ∧ w'.cell? ⟨(w1.heap.size + 2), 1, none⟩ = some (.int .i64 0) ∧ w'.cell? ⟨(w1.heap.size + 2), 2, none⟩ = some (.slice none 0 0) ∧ w'.cell? ⟨(w1.heap.size + 2), 3, none⟩ = some (.int .i64 0) ∧ w'.cell? ⟨(w1.heap.size + 2), 4, none⟩ = some (.int .i64 0) ∧ w'.cell? ⟨(w1.heap.size + 2), 5, none⟩ = some (.int .i64 0) ∧ w'.cell? ⟨(w1.heap.size + 2), 6, none⟩ = some (.int .i64 0)) (fun _ h => h.1) _ _ _ _ ?_
        have hHeld1 : (fun w' => (w'.cell? ⟨hh, 0, none⟩ = some va ∧ w'.cell? ⟨hh, 1, none⟩ = some V ∧ w'.cell? ⟨hh, 2, none⟩ = some vb) ∧ w'.cell? ⟨(w1.heap.size + 2), 0, none⟩ = some (.slice none 0 0) ∧ w'.cell? ⟨(w1.heap.size + 2), 1, none⟩ = some (.int .i64 0) ∧ w'.cell? ⟨(w1.heap.size + 2), 2, none⟩ = some (.slice none 0 0) ∧ w'.cell? ⟨(w1.heap.size + 2), 3, none⟩ = some (.int .i64 0) ∧ w'.cell? ⟨(w1.heap.size + 2), 4, none⟩ = some (.int .i64 0) ∧ w'.cell? ⟨(w1.heap.size + 2), 5, none⟩ = some (.int .i64 0) ∧ w'.cell? ⟨(w1.heap.size + 2), 6, none⟩ = some (.int .i64 0)) ((((w1.alloc (.map #[] 0)).alloc (.map #[] 0)).alloc (.cells #[.slice none 0 0, .int .i64 0, .slice none 0 0, .int .i64 0, .int .i64 0, .int .i64 0, .int .i64 0] 74)).drew) := ⟨hHeld, z0, z1, z2, z3, z4, z5, z6⟩
        refine wpAnyH_take (i := 1) (oi := { dst := some 17, op := _, type := _, pos := _, after := _, guard := _ }) (v := .pointer (some ⟨(w1.heap.size + 2), 0, none⟩)) rfl (by kernel_rfl) (by kernel_rfl) (by kernel_rfl) (fun _ _ _ h => h) (Or.inl ⟨by rfl, ?_⟩) (by assumption) ?_
        · intro w hSw
          (try dsimp only at hSw)
          first | (go_simp; done) | (go_simp; with_reducible rfl)
        (try simp only [Act.put, List.setIfInBounds_toArray, List.set_cons_zero, List.set_cons_succ])
        refine wpAnyH_take (i := 2) (oi := { dst := some 18, op := _, type := _, pos := _, after := _, guard := _ }) (v := .agg #[.slice none 0 0, .int .i64 0, .slice none 0 0, .int .i64 0, .int .i64 0, .int .i64 0, .int .i64 0]) rfl (by kernel_rfl) (by kernel_rfl) (by kernel_rfl) (fun _ _ _ h => h) (Or.inl ⟨by rfl, ?_⟩) (by assumption) ?_
        · intro w hSw
          (try dsimp only at hSw)
          first | (go_simp; done) | (go_simp; with_reducible rfl)
        (try simp only [Act.put, List.setIfInBounds_toArray, List.set_cons_zero, List.set_cons_succ])
        refine wpAnyH_take (i := 9) (oi := { dst := some 25, op := _, type := _, pos := _, after := _, guard := _ }) (v := .agg #[.slice none 0 0, .int .i64 0, .slice none 0 0, .int .i64 0, .int .i64 0, .int .i64 0, .int .i64 0, va, V, vb, .map (some w1.heap.size), .map (some (w1.heap.size + 1)), .int .i64 pc, .int .i64 0]) rfl (by kernel_rfl) (by kernel_rfl) (by kernel_rfl) (fun _ _ _ h => h) (Or.inl ⟨by rfl, ?_⟩) (by assumption) ?_
        · intro w hSw
          (try dsimp only at hSw)
          first | (go_simp; done) | (go_simp; with_reducible rfl)
        (try simp only [Act.put, List.setIfInBounds_toArray, List.set_cons_zero, List.set_cons_succ])
        refine wpAnyH_ready (rs := [10]) (by kernel_rfl) (by simp) ?_
        refine AllReadyH.cons (o := { dst := some 26, op := _, type := _, pos := _, after := _, guard := _ }) rfl (fun K hK => ?_) ?_
        · go_simp
          refine hK.out _ _ ⟨⟨Ext.cell (S := []) (by (repeat (first | (with_reducible exact Ext.refl [] _) | (with_reducible exact Ext.drew [] _) | (with_reducible assumption) | (with_reducible refine Ext.trans ?_ (Ext.drew [] _)) | (with_reducible refine Ext.trans ?_ (Ext.alloc [] _ _))))) c0 (by simp), Ext.cell (S := []) (by (repeat (first | (with_reducible exact Ext.refl [] _) | (with_reducible exact Ext.drew [] _) | (with_reducible assumption) | (with_reducible refine Ext.trans ?_ (Ext.drew [] _)) | (with_reducible refine Ext.trans ?_ (Ext.alloc [] _ _))))) c1 (by simp), Ext.cell (S := []) (by (repeat (first | (with_reducible exact Ext.refl [] _) | (with_reducible exact Ext.drew [] _) | (with_reducible assumption) | (with_reducible refine Ext.trans ?_ (Ext.drew [] _)) | (with_reducible refine Ext.trans ?_ (Ext.alloc [] _ _))))) c2 (by simp)⟩, Ext.cell (S := []) (by (repeat (first | (with_reducible exact Ext.refl [] _) | (with_reducible exact Ext.drew [] _) | (with_reducible assumption) | (with_reducible refine Ext.trans ?_ (Ext.drew [] _)) | (with_reducible refine Ext.trans ?_ (Ext.alloc [] _ _))))) z0 (by simp), Ext.cell (S := []) (by (repeat (first | (with_reducible exact Ext.refl [] _) | (with_reducible exact Ext.drew [] _) | (with_reducible assumption) | (with_reducible refine Ext.trans ?_ (Ext.drew [] _)) | (with_reducible refine Ext.trans ?_ (Ext.alloc [] _ _))))) z1 (by simp), Ext.cell (S := []) (by (repeat (first | (with_reducible exact Ext.refl [] _) | (with_reducible exact Ext.drew [] _) | (with_reducible assumption) | (with_reducible refine Ext.trans ?_ (Ext.drew [] _)) | (with_reducible refine Ext.trans ?_ (Ext.alloc [] _ _))))) z2 (by simp), Ext.cell (S := []) (by (repeat (first | (with_reducible exact Ext.refl [] _) | (with_reducible exact Ext.drew [] _) | (with_reducible assumption) | (with_reducible refine Ext.trans ?_ (Ext.drew [] _)) | (with_reducible refine Ext.trans ?_ (Ext.alloc [] _ _))))) z3 (by simp), Ext.cell (S := []) (by (repeat (first | (with_reducible exact Ext.refl [] _) | (with_reducible exact Ext.drew [] _) | (with_reducible assumption) | (with_reducible refine Ext.trans ?_ (Ext.drew [] _)) | (with_reducible refine Ext.trans ?_ (Ext.alloc [] _ _))))) z4 (by simp), Ext.cell (S := []) (by (repeat (first | (with_reducible exact Ext.refl [] _) | (with_reducible exact Ext.drew [] _) | (with_reducible assumption) | (with_reducible refine Ext.trans ?_ (Ext.drew [] _)) | (with_reducible refine Ext.trans ?_ (Ext.alloc [] _ _))))) z5 (by simp), Ext.cell (S := []) (by (repeat (first | (with_reducible exact Ext.refl [] _) | (with_reducible exact Ext.drew [] _) | (with_reducible assumption) | (with_reducible refine Ext.trans ?_ (Ext.drew [] _)) | (with_reducible refine Ext.trans ?_ (Ext.alloc [] _ _))))) z6 (by simp)⟩ (fun hHeld => ?_)
          clear hK K
          (try simp only [Act.put, List.setIfInBounds_toArray, List.set_cons_zero, List.set_cons_succ])
          refine wpAnyH_take (i := 11) (oi := { dst := some 4, op := _, type := _, pos := _, after := _, guard := _ }) (v := .pointer (some ⟨(w1.heap.size + 3), 0, none⟩)) rfl (by kernel_rfl) (by kernel_rfl) (by kernel_rfl) (fun _ _ _ h => h) (Or.inl ⟨by rfl, ?_⟩) (by assumption) ?_
          · intro w hSw
            (try dsimp only at hSw)
            first | (go_simp; done) | (go_simp; with_reducible rfl)
          (try simp only [Act.put, List.setIfInBounds_toArray, List.set_cons_zero, List.set_cons_succ])
          refine wpAnyH_take (i := 12) (oi := { dst := some 5, op := _, type := _, pos := _, after := _, guard := _ }) (v := .int .i64 0) rfl (by kernel_rfl) (by kernel_rfl) (by kernel_rfl) (fun _ _ _ h => h) (Or.inl ⟨by rfl, ?_⟩) (by assumption) ?_
          · intro w hSw
            (try dsimp only at hSw)
            first | (go_simp; done) | (go_simp; with_reducible rfl)
          (try simp only [Act.put, List.setIfInBounds_toArray, List.set_cons_zero, List.set_cons_succ])
          refine wpAnyH_done (by kernel_rfl) ?_ _
          go_wp2_with fail
          go_ret2
          exact HFin.out (((w1.alloc (.map #[] 0)).alloc (.map #[] 0)).alloc (.cells #[.slice none 0 0, .int .i64 0, .slice none 0 0, .int .i64 0, .int .i64 0, .int .i64 0, .int .i64 0] 74)) w1.heap.size (w1.heap.size + 1) (by (repeat (first | (with_reducible exact Ext.refl [] _) | (with_reducible exact Ext.drew [] _) | (with_reducible assumption) | (with_reducible refine Ext.trans ?_ (Ext.drew [] _)) | (with_reducible refine Ext.trans ?_ (Ext.alloc [] _ _))))) (by simp [World.size_alloc]) (hp_old (hp_old (hp_new rfl))) (hp_old (hp_new (by simp [World.size_alloc]))) (by omega) (by omega) (by omega) _ rfl
        · exact AllReadyH.nil
      exact AllReadyH.nil
    exact AllReadyH.nil
  refine AllReadyH.cons (o := { dst := some 23, op := _, type := _, pos := _, after := _, guard := _ }) rfl (fun K hK => ?_) ?_
  · go_simp
    refine hK.out _ _ ⟨Ext.cell (S := []) (by (repeat (first | (with_reducible exact Ext.refl [] _) | (with_reducible exact Ext.drew [] _) | (with_reducible assumption) | (with_reducible refine Ext.trans ?_ (Ext.drew [] _)) | (with_reducible refine Ext.trans ?_ (Ext.alloc [] _ _))))) c0 (by simp), Ext.cell (S := []) (by (repeat (first | (with_reducible exact Ext.refl [] _) | (with_reducible exact Ext.drew [] _) | (with_reducible assumption) | (with_reducible refine Ext.trans ?_ (Ext.drew [] _)) | (with_reducible refine Ext.trans ?_ (Ext.alloc [] _ _))))) c1 (by simp), Ext.cell (S := []) (by (repeat (first | (with_reducible exact Ext.refl [] _) | (with_reducible exact Ext.drew [] _) | (with_reducible assumption) | (with_reducible refine Ext.trans ?_ (Ext.drew [] _)) | (with_reducible refine Ext.trans ?_ (Ext.alloc [] _ _))))) c2 (by simp)⟩ (fun hHeld => ?_)
    clear hK K
    (try simp only [Act.put, List.setIfInBounds_toArray, List.set_cons_zero, List.set_cons_succ])
    refine wpAnyH_ready (rs := [0, 6]) (by kernel_rfl) (by simp) ?_
    refine AllReadyH.cons (o := { dst := some 16, op := _, type := _, pos := _, after := _, guard := _ }) rfl (fun K hK => ?_) ?_
    · go_simp
      refine Calls.mono (cnew_any _) ?_
      rintro e wg ⟨rfl, rfl⟩
      go_wp2_with fail
      refine hK.out _ _ ⟨Ext.cell (S := []) (by (repeat (first | (with_reducible exact Ext.refl [] _) | (with_reducible exact Ext.drew [] _) | (with_reducible assumption) | (with_reducible refine Ext.trans ?_ (Ext.drew [] _)) | (with_reducible refine Ext.trans ?_ (Ext.alloc [] _ _))))) c0 (by simp), Ext.cell (S := []) (by (repeat (first | (with_reducible exact Ext.refl [] _) | (with_reducible exact Ext.drew [] _) | (with_reducible assumption) | (with_reducible refine Ext.trans ?_ (Ext.drew [] _)) | (with_reducible refine Ext.trans ?_ (Ext.alloc [] _ _))))) c1 (by simp), Ext.cell (S := []) (by (repeat (first | (with_reducible exact Ext.refl [] _) | (with_reducible exact Ext.drew [] _) | (with_reducible assumption) | (with_reducible refine Ext.trans ?_ (Ext.drew [] _)) | (with_reducible refine Ext.trans ?_ (Ext.alloc [] _ _))))) c2 (by simp)⟩ (fun hHeld => ?_)
      clear hK K
      (try simp only [Act.put, List.setIfInBounds_toArray, List.set_cons_zero, List.set_cons_succ])
      have zb : ((w1.alloc (.map #[] 0)).alloc (.cells #[.slice none 0 0, .int .i64 0, .slice none 0 0, .int .i64 0, .int .i64 0, .int .i64 0, .int .i64 0] 74)).heap[(w1.heap.size + 1)]? = some (.cells #[.slice none 0 0, .int .i64 0, .slice none 0 0, .int .i64 0, .int .i64 0, .int .i64 0, .int .i64 0] 74 (0, 0)) := (hp_new (by simp [World.size_alloc]))
      have z0 : ((w1.alloc (.map #[] 0)).alloc (.cells #[.slice none 0 0, .int .i64 0, .slice none 0 0, .int .i64 0, .int .i64 0, .int .i64 0, .int .i64 0] 74)).cell? ⟨(w1.heap.size + 1), 0, none⟩ = some (.slice none 0 0) := by rw [cell_of_row _ _ _ _ _ _ zb]; rfl
      have z1 : ((w1.alloc (.map #[] 0)).alloc (.cells #[.slice none 0 0, .int .i64 0, .slice none 0 0, .int .i64 0, .int .i64 0, .int .i64 0, .int .i64 0] 74)).cell? ⟨(w1.heap.size + 1), 1, none⟩ = some (.int .i64 0) := by rw [cell_of_row _ _ _ _ _ _ zb]; rfl
      have z2 : ((w1.alloc (.map #[] 0)).alloc (.cells #[.slice none 0 0, .int .i64 0, .slice none 0 0, .int .i64 0, .int .i64 0, .int .i64 0, .int .i64 0] 74)).cell? ⟨(w1.heap.size + 1), 2, none⟩ = some (.slice none 0 0) := by rw [cell_of_row _ _ _ _ _ _ zb]; rfl
      have z3 : ((w1.alloc (.map #[] 0)).alloc (.cells #[.slice none 0 0, .int .i64 0, .slice none 0 0, .int .i64 0, .int .i64 0, .int .i64 0, .int .i64 0] 74)).cell? ⟨(w1.heap.size + 1), 3, none⟩ = some (.int .i64 0) := by rw [cell_of_row _ _ _ _ _ _ zb]; rfl
      have z4 : ((w1.alloc (.map #[] 0)).alloc (.cells #[.slice none 0 0, .int .i64 0, .slice none 0 0, .int .i64 0, .int .i64 0, .int .i64 0, .int .i64 0] 74)).cell? ⟨(w1.heap.size + 1), 4, none⟩ = some (.int .i64 0) := by rw [cell_of_row _ _ _ _ _ _ zb]; rfl
      have z5 : ((w1.alloc (.map #[] 0)).alloc (.cells #[.slice none 0 0, .int .i64 0, .slice none 0 0, .int .i64 0, .int .i64 0, .int .i64 0, .int .i64 0] 74)).cell? ⟨(w1.heap.size + 1), 5, none⟩ = some (.int .i64 0) := by rw [cell_of_row _ _ _ _ _ _ zb]; rfl
      have z6 : ((w1.alloc (.map #[] 0)).alloc (.cells #[.slice none 0 0, .int .i64 0, .slice none 0 0, .int .i64 0, .int .i64 0, .int .i64 0, .int .i64 0] 74)).cell? ⟨(w1.heap.size + 1), 6, none⟩ = some (.int .i64 0) := by rw [cell_of_row _ _ _ _ _ _ zb]; rfl
      clear zb
      refine wpAnyH_more (S' := fun w' => (w'.cell? ⟨hh, 0, none⟩ = some va ∧ w'.cell? ⟨hh, 1, none⟩ = some V ∧ w'.cell? ⟨hh, 2, none⟩ = some vb) ∧ w'.cell? ⟨(w1.heap.size + 1), 0, none⟩ = some (.slice none 0 0) ∧ w'.cell? ⟨(w1.heap.size + 1), 1, none⟩ = some (.int .i64 0) ∧ w'.cell? ⟨(w1.heap.size + 1), 2, none⟩ = some (.slice none 0 0) ∧ w'.cell? ⟨(w1.heap.size + 1), 3, none⟩ = some (.int .i64 0) ∧ w'.cell? ⟨(w1.heap.size + 1), 4, none⟩ = some (.int .i64 0) ∧ w'.cell? ⟨(w1.heap.size + 1), 5, none⟩ = some (.int .i64 0) ∧ w'.cell? ⟨(w1.heap.size + 1), 6, none⟩ = some (.int .i64 0)) (fun _ h => h.1) _ _ _ _ ?_
      have hHeld1 : (fun w' => (w'.cell? ⟨hh, 0, none⟩ = some va ∧ w'.cell? ⟨hh, 1, none⟩ = some V ∧ w'.cell? ⟨hh, 2, none⟩ = some vb) ∧ w'.cell? ⟨(w1.heap.size + 1), 0, none⟩ = some (.slice none 0 0) ∧ w'.cell? ⟨(w1.heap.size + 1), 1, none⟩ = some (.int .i64 0) ∧ w'.cell? ⟨(w1.heap.size + 1), 2, none⟩ = some (.slice none 0 0) ∧ w'.cell? ⟨(w1.heap.size + 1), 3, none⟩ = some (.int .i64 0) ∧ w'.cell? ⟨(w1.heap.size + 1), 4, none⟩ = some (.int .i64 0) ∧ w'.cell? ⟨(w1.heap.size + 1), 5, none⟩ = some (.int .i64 0) ∧ w'.cell? ⟨(w1.heap.size + 1), 6, none⟩ = some (.int .i64 0)) (((w1.alloc (.map #[] 0)).alloc (.cells #[.slice none 0 0, .int .i64 0, .slice none 0 0, .int .i64 0, .int .i64 0, .int .i64 0, .int .i64 0] 74)).drew) := ⟨hHeld, z0, z1, z2, z3, z4, z5, z6⟩
      refine wpAnyH_take (i := 1) (oi := { dst := some 17, op := _, type := _, pos := _, after := _, guard := _ }) (v := .pointer (some ⟨(w1.heap.size + 1), 0, none⟩)) rfl (by kernel_rfl) (by kernel_rfl) (by kernel_rfl) (fun _ _ _ h => h) (Or.inl ⟨by rfl, ?_⟩) (by assumption) ?_
      · intro w hSw
        (try dsimp only at hSw)
        first | (go_simp; done) | (go_simp; with_reducible rfl)
      (try simp only [Act.put, List.setIfInBounds_toArray, List.set_cons_zero, List.set_cons_succ])
      refine wpAnyH_take (i := 2) (oi := { dst := some 18, op := _, type := _, pos := _, after := _, guard := _ }) (v := .agg #[.slice none 0 0, .int .i64 0, .slice none 0 0, .int .i64 0, .int .i64 0, .int .i64 0, .int .i64 0]) rfl (by kernel_rfl) (by kernel_rfl) (by kernel_rfl) (fun _ _ _ h => h) (Or.inl ⟨by rfl, ?_⟩) (by assumption) ?_
      · intro w hSw
        (try dsimp only at hSw)
        first | (go_simp; done) | (go_simp; with_reducible rfl)
      (try simp only [Act.put, List.setIfInBounds_toArray, List.set_cons_zero, List.set_cons_succ])
      refine wpAnyH_ready (rs := [6]) (by kernel_rfl) (by simp) ?_
      refine AllReadyH.cons (o := { dst := some 22, op := _, type := _, pos := _, after := _, guard := _ }) rfl (fun K hK => ?_) ?_
      · go_simp
        refine hK.out _ _ ⟨⟨Ext.cell (S := []) (by (repeat (first | (with_reducible exact Ext.refl [] _) | (with_reducible exact Ext.drew [] _) | (with_reducible assumption) | (with_reducible refine Ext.trans ?_ (Ext.drew [] _)) | (with_reducible refine Ext.trans ?_ (Ext.alloc [] _ _))))) c0 (by simp), Ext.cell (S := []) (by (repeat (first | (with_reducible exact Ext.refl [] _) | (with_reducible exact Ext.drew [] _) | (with_reducible assumption) | (with_reducible refine Ext.trans ?_ (Ext.drew [] _)) | (with_reducible refine Ext.trans ?_ (Ext.alloc [] _ _))))) c1 (by simp), Ext.cell (S := []) (by (repeat (first | (with_reducible exact Ext.refl [] _) | (with_reducible exact Ext.drew [] _) | (with_reducible assumption) | (with_reducible refine Ext.trans ?_ (Ext.drew [] _)) | (with_reducible refine Ext.trans ?_ (Ext.alloc [] _ _))))) c2 (by simp)⟩, Ext.cell (S := []) (by (repeat (first | (with_reducible exact Ext.refl [] _) | (with_reducible exact Ext.drew [] _) | (with_reducible assumption) | (with_reducible refine Ext.trans ?_ (Ext.drew [] _)) | (with_reducible refine Ext.trans ?_ (Ext.alloc [] _ _))))) z0 (by simp), Ext.cell (S := []) (by (repeat (first | (with_reducible exact Ext.refl [] _) | (with_reducible exact Ext.drew [] _) | (with_reducible assumption) | (with_reducible refine Ext.trans ?_ (Ext.drew [] _)) | (with_reducible refine Ext.trans ?_ (Ext.alloc [] _ _))))) z1 (by simp), Ext.cell (S := []) (by (repeat (first | (with_reducible exact Ext.refl [] _) | (with_reducible exact Ext.drew [] _) | (with_reducible assumption) | (with_reducible refine Ext.trans ?_ (Ext.drew [] _)) | (with_reducible refine Ext.trans ?_ (Ext.alloc [] _ _))))) z2 (by simp), Ext.cell (S := []) (by (repeat (first | (with_reducible exact Ext.refl [] _) | (with_reducible exact Ext.drew [] _) | (with_reducible assumption) | (with_reducible refine Ext.trans ?_ (Ext.drew [] _)) | (with_reducible refine Ext.trans ?_ (Ext.alloc [] _ _))))) z3 (by simp), Ext.cell (S := []) (by (repeat (first | (with_reducible exact Ext.refl [] _) | (with_reducible exact Ext.drew [] _) | (with_reducible assumption) | (with_reducible refine Ext.trans ?_ (Ext.drew [] _)) | (with_reducible refine Ext.trans ?_ (Ext.alloc [] _ _))))) z4 (by simp), Ext.cell (S := []) (by (repeat (first | (with_reducible exact Ext.refl [] _) | (with_reducible exact Ext.drew [] _) | (with_reducible assumption) | (with_reducible refine Ext.trans ?_ (Ext.drew [] _)) | (with_reducible refine Ext.trans ?_ (Ext.alloc [] _ _))))) z5 (by simp), Ext.cell (S := []) (by (repeat (first | (with_reducible exact Ext.refl [] _) | (with_reducible exact Ext.drew [] _) | (with_reducible assumption) | (with_reducible refine Ext.trans ?_ (Ext.drew [] _)) | (with_reducible refine Ext.trans ?_ (Ext.alloc [] _ _))))) z6 (by simp)⟩ (fun hHeld => ?_)
        clear hK K
        (try simp only [Act.put, List.setIfInBounds_toArray, List.set_cons_zero, List.set_cons_succ])
        refine wpAnyH_take (i := 9) (oi := { dst := some 25, op := _, type := _, pos := _, after := _, guard := _ }) (v := .agg #[.slice none 0 0, .int .i64 0, .slice none 0 0, .int .i64 0, .int .i64 0, .int .i64 0, .int .i64 0, va, V, vb, .map (some (w1.heap.size + 2)), .map (some w1.heap.size), .int .i64 pc, .int .i64 0]) rfl (by kernel_rfl) (by kernel_rfl) (by kernel_rfl) (fun _ _ _ h => h) (Or.inl ⟨by rfl, ?_⟩) (by assumption) ?_
        · intro w hSw
          (try dsimp only at hSw)
          first | (go_simp; done) | (go_simp; with_reducible rfl)
        (try simp only [Act.put, List.setIfInBounds_toArray, List.set_cons_zero, List.set_cons_succ])
        refine wpAnyH_ready (rs := [10]) (by kernel_rfl) (by simp) ?_
        refine AllReadyH.cons (o := { dst := some 26, op := _, type := _, pos := _, after := _, guard := _ }) rfl (fun K hK => ?_) ?_
        · go_simp
          refine hK.out _ _ ⟨⟨Ext.cell (S := []) (by (repeat (first | (with_reducible exact Ext.refl [] _) | (with_reducible exact Ext.drew [] _) | (with_reducible assumption) | (with_reducible refine Ext.trans ?_ (Ext.drew [] _)) | (with_reducible refine Ext.trans ?_ (Ext.alloc [] _ _))))) c0 (by simp), Ext.cell (S := []) (by (repeat (first | (with_reducible exact Ext.refl [] _) | (with_reducible exact Ext.drew [] _) | (with_reducible assumption) | (with_reducible refine Ext.trans ?_ (Ext.drew [] _)) | (with_reducible refine Ext.trans ?_ (Ext.alloc [] _ _))))) c1 (by simp), Ext.cell (S := []) (by (repeat (first | (with_reducible exact Ext.refl [] _) | (with_reducible exact Ext.drew [] _) | (with_reducible assumption) | (with_reducible refine Ext.trans ?_ (Ext.drew [] _)) | (with_reducible refine Ext.trans ?_ (Ext.alloc [] _ _))))) c2 (by simp)⟩, Ext.cell (S := []) (by (repeat (first | (with_reducible exact Ext.refl [] _) | (with_reducible exact Ext.drew [] _) | (with_reducible assumption) | (with_reducible refine Ext.trans ?_ (Ext.drew [] _)) | (with_reducible refine Ext.trans ?_ (Ext.alloc [] _ _))))) z0 (by simp), Ext.cell (S := []) (by (repeat (first | (with_reducible exact Ext.refl [] _) | (with_reducible exact Ext.drew [] _) | (with_reducible assumption) | (with_reducible refine Ext.trans ?_ (Ext.drew [] _)) | (with_reducible refine Ext.trans ?_ (Ext.alloc [] _ _))))) z1 (by simp), Ext.cell (S := []) (by (repeat (first | (with_reducible exact Ext.refl [] _) | (with_reducible exact Ext.drew [] _) | (with_reducible assumption) | (with_reducible refine Ext.trans ?_ (Ext.drew [] _)) | (with_reducible refine Ext.trans ?_ (Ext.alloc [] _ _))))) z2 (by simp), Ext.cell (S := []) (by (repeat (first | (with_reducible exact Ext.refl [] _) | (with_reducible exact Ext.drew [] _) | (with_reducible assumption) | (with_reducible refine Ext.trans ?_ (Ext.drew [] _)) | (with_reducible refine Ext.trans ?_ (Ext.alloc [] _ _))))) z3 (by simp), Ext.cell (S := []) (by (repeat (first | (with_reducible exact Ext.refl [] _) | (with_reducible exact Ext.drew [] _) | (with_reducible assumption) | (with_reducible refine Ext.trans ?_ (Ext.drew [] _)) | (with_reducible refine Ext.trans ?_ (Ext.alloc [] _ _))))) z4 (by simp), Ext.cell (S := []) (by (repeat (first | (with_reducible exact Ext.refl [] _) | (with_reducible exact Ext.drew [] _) | (with_reducible assumption) | (with_reducible refine Ext.trans ?_ (Ext.drew [] _)) | (with_reducible refine Ext.trans ?_ (Ext.alloc [] _ _))))) z5 (by simp), Ext.cell (S := []) (by (repeat (first | (with_reducible exact Ext.refl [] _) | (with_reducible exact Ext.drew [] _) | (with_reducible assumption) | (with_reducible refine Ext.trans ?_ (Ext.drew [] _)) | (with_reducible refine Ext.trans ?_ (Ext.alloc [] _ _))))) z6 (by simp)⟩ (fun hHeld => ?_)
          clear hK K
          (try simp only [Act.put, List.setIfInBounds_toArray, List.set_cons_zero, List.set_cons_succ])
          refine wpAnyH_take (i := 11) (oi := { dst := some 4, op := _, type := _, pos := _, after := _, guard := _ }) (v := .pointer (some ⟨(w1.heap.size + 3), 0, none⟩)) rfl (by kernel_rfl) (by kernel_rfl) (by kernel_rfl) (fun _ _ _ h => h) (Or.inl ⟨by rfl, ?_⟩) (by assumption) ?_
          · intro w hSw
            (try dsimp only at hSw)
            first | (go_simp; done) | (go_simp; with_reducible rfl)
          (try simp only [Act.put, List.setIfInBounds_toArray, List.set_cons_zero, List.set_cons_succ])
          refine wpAnyH_take (i := 12) (oi := { dst := some 5, op := _, type := _, pos := _, after := _, guard := _ }) (v := .int .i64 0) rfl (by kernel_rfl) (by kernel_rfl) (by kernel_rfl) (fun _ _ _ h => h) (Or.inl ⟨by rfl, ?_⟩) (by assumption) ?_
          · intro w hSw
            (try dsimp only at hSw)
            first | (go_simp; done) | (go_simp; with_reducible rfl)
          (try simp only [Act.put, List.setIfInBounds_toArray, List.set_cons_zero, List.set_cons_succ])
          refine wpAnyH_done (by kernel_rfl) ?_ _
          go_wp2_with fail
          go_ret2
          exact HFin.out (((w1.alloc (.map #[] 0)).alloc (.cells #[.slice none 0 0, .int .i64 0, .slice none 0 0, .int .i64 0, .int .i64 0, .int .i64 0, .int .i64 0] 74)).alloc (.map #[] 0)) (w1.heap.size + 2) w1.heap.size (by (repeat (first | (with_reducible exact Ext.refl [] _) | (with_reducible exact Ext.drew [] _) | (with_reducible assumption) | (with_reducible refine Ext.trans ?_ (Ext.drew [] _)) | (with_reducible refine Ext.trans ?_ (Ext.alloc [] _ _))))) (by simp [World.size_alloc]) (hp_new (by simp [World.size_alloc])) (hp_old (hp_old (hp_new rfl))) (by omega) (by omega) (by omega) _ rfl
        · exact AllReadyH.nil
      exact AllReadyH.nil
    refine AllReadyH.cons (o := { dst := some 22, op := _, type := _, pos := _, after := _, guard := _ }) rfl (fun K hK => ?_) ?_
    · go_simp
      refine hK.out _ _ ⟨Ext.cell (S := []) (by (repeat (first | (with_reducible exact Ext.refl [] _) | (with_reducible exact Ext.drew [] _) | (with_reducible assumption) | (with_reducible refine Ext.trans ?_ (Ext.drew [] _)) | (with_reducible refine Ext.trans ?_ (Ext.alloc [] _ _))))) c0 (by simp), Ext.cell (S := []) (by (repeat (first | (with_reducible exact Ext.refl [] _) | (with_reducible exact Ext.drew [] _) | (with_reducible assumption) | (with_reducible refine Ext.trans ?_ (Ext.drew [] _)) | (with_reducible refine Ext.trans ?_ (Ext.alloc [] _ _))))) c1 (by simp), Ext.cell (S := []) (by (repeat (first | (with_reducible exact Ext.refl [] _) | (with_reducible exact Ext.drew [] _) | (with_reducible assumption) | (with_reducible refine Ext.trans ?_ (Ext.drew [] _)) | (with_reducible refine Ext.trans ?_ (Ext.alloc [] _ _))))) c2 (by simp)⟩ (fun hHeld => ?_)
      clear hK K
      (try simp only [Act.put, List.setIfInBounds_toArray, List.set_cons_zero, List.set_cons_succ])
      refine wpAnyH_ready (rs := [0]) (by kernel_rfl) (by simp) ?_
      refine AllReadyH.cons (o := { dst := some 16, op := _, type := _, pos := _, after := _, guard := _ }) rfl (fun K hK => ?_) ?_
      · go_simp
        refine Calls.mono (cnew_any _) ?_
        rintro e wg ⟨rfl, rfl⟩
        go_wp2_with fail
        refine hK.out _ _ ⟨Ext.cell (S := []) (by (repeat (first | (with_reducible exact Ext.refl [] _) | (with_reducible exact Ext.drew [] _) | (with_reducible assumption) | (with_reducible refine Ext.trans ?_ (Ext.drew [] _)) | (with_reducible refine Ext.trans ?_ (Ext.alloc [] _ _))))) c0 (by simp), Ext.cell (S := []) (by (repeat (first | (with_reducible exact Ext.refl [] _) | (with_reducible exact Ext.drew [] _) | (with_reducible assumption) | (with_reducible refine Ext.trans ?_ (Ext.drew [] _)) | (with_reducible refine Ext.trans ?_ (Ext.alloc [] _ _))))) c1 (by simp), Ext.cell (S := []) (by (repeat (first | (with_reducible exact Ext.refl [] _) | (with_reducible exact Ext.drew [] _) | (with_reducible assumption) | (with_reducible refine Ext.trans ?_ (Ext.drew [] _)) | (with_reducible refine Ext.trans ?_ (Ext.alloc [] _ _))))) c2 (by simp)⟩ (fun hHeld => ?_)
        clear hK K
        (try simp only [Act.put, List.setIfInBounds_toArray, List.set_cons_zero, List.set_cons_succ])
        have zb : (((w1.alloc (.map #[] 0)).alloc (.map #[] 0)).alloc (.cells #[.slice none 0 0, .int .i64 0, .slice none 0 0, .int .i64 0, .int .i64 0, .int .i64 0, .int .i64 0] 74)).heap[(w1.heap.size + 2)]? = some (.cells #[.slice none 0 0, .int .i64 0, .slice none 0 0, .int .i64 0, .int .i64 0, .int .i64 0, .int .i64 0] 74 (0, 0)) := (hp_new (by simp [World.size_alloc]))
        have z0 : (((w1.alloc (.map #[] 0)).alloc (.map #[] 0)).alloc (.cells #[.slice none 0 0, .int .i64 0, .slice none 0 0, .int .i64 0, .int .i64 0, .int .i64 0, .int .i64 0] 74)).cell? ⟨(w1.heap.size + 2), 0, none⟩ = some (.slice none 0 0) := by rw [cell_of_row _ _ _ _ _ _ zb]; rfl
        have z1 : (((w1.alloc (.map #[] 0)).alloc (.map #[] 0)).alloc (.cells #[.slice none 0 0, .int .i64 0, .slice none 0 0, .int .i64 0, .int .i64 0, .int .i64 0, .int .i64 0] 74)).cell? ⟨(w1.heap.size + 2), 1, none⟩ = some (.int .i64 0) := by rw [cell_of_row _ _ _ _ _ _ zb]; rfl
        have z2 : (((w1.alloc (.map #[] 0)).alloc (.map #[] 0)).alloc (.cells #[.slice none 0 0, .int .i64 0, .slice none 0 0, .int .i64 0, .int .i64 0, .int .i64 0, .int .i64 0] 74)).cell? ⟨(w1.heap.size + 2), 2, none⟩ = some (.slice none 0 0) := by rw [cell_of_row _ _ _ _ _ _ zb]; rfl
        have z3 : (((w1.alloc (.map #[] 0)).alloc (.map #[] 0)).alloc (.cells #[.slice none 0 0, .int .i64 0, .slice none 0 0, .int .i64 0, .int .i64 0, .int .i64 0, .int .i64 0] 74)).cell? ⟨(w1.heap.size + 2), 3, none⟩ = some (.int .i64 0) := by rw [cell_of_row _ _ _ _ _ _ zb]; rfl
        have z4 : (((w1.alloc (.map #[] 0)).alloc (.map #[] 0)).alloc (.cells #[.slice none 0 0, .int .i64 0, .slice none 0 0, .int .i64 0, .int .i64 0, .int .i64 0, .int .i64 0] 74)).cell? ⟨(w1.heap.size + 2), 4, none⟩ = some (.int .i64 0) := by rw [cell_of_row _ _ _ _ _ _ zb]; rfl
        have z5 : (((w1.alloc (.map #[] 0)).alloc (.map #[] 0)).alloc (.cells #[.slice none 0 0, .int .i64 0, .slice none 0 0, .int .i64 0, .int .i64 0, .int .i64 0, .int .i64 0] 74)).cell? ⟨(w1.heap.size + 2), 5, none⟩ = some (.int .i64 0) := by rw [cell_of_row _ _ _ _ _ _ zb]; rfl
        have z6 : (((w1.alloc (.map #[] 0)).alloc (.map #[] 0)).alloc (.cells #[.slice none 0 0, .int .i64 0, .slice none 0 0, .int .i64 0, .int .i64 0, .int .i64 0, .int .i64 0] 74)).cell? ⟨(w1.heap.size + 2), 6, none⟩ = some (.int .i64 0) := by rw [cell_of_row _ _ _ _ _ _ zb]; rfl
        clear zb
        refine wpAnyH_more (S' := fun w' => (w'.cell? ⟨hh, 0, none⟩ = some va ∧ w'.cell? ⟨hh, 1, none⟩ = some V ∧ w'.cell? ⟨hh, 2, none⟩ = some vb) ∧ w'.cell? ⟨(w1.heap.size + 2), 0, none⟩ = some (.slice none 0 0) ∧ w'.cell? ⟨(w1.heap.size + 2), 1, none⟩ = some (.int .i64 0) ∧ w'.cell? ⟨(w1.heap.size + 2), 2, none⟩ = some (.slice none 0 0) ∧ w'.cell? ⟨(w1.heap.size + 2), 3, none⟩ = some (.int .i64 0) ∧ w'.cell? ⟨(w1.heap.size + 2), 4, none⟩ = some (.int .i64 0) ∧ w'.cell? ⟨(w1.heap.size + 2), 5, none⟩ = some (.int .i64 0) ∧ w'.cell? ⟨(w1.heap.size + 2), 6, none⟩ = some (.int .i64 0)) (fun _ h => h.1) _ _ _ _ ?_
        have hHeld1 : (fun w' => (w'.cell? ⟨hh, 0, none⟩ = some va ∧ w'.cell? ⟨hh, 1, none⟩ = some V ∧ w'.cell? ⟨hh, 2, none⟩ = some vb) ∧ w'.cell? ⟨(w1.heap.size + 2), 0, none⟩ = some (.slice none 0 0) ∧ w'.cell? ⟨(w1.heap.size + 2), 1, none⟩ = some (.int .i64 0) ∧ w'.cell? ⟨(w1.heap.size + 2), 2, none⟩ = some (.slice none 0 0) ∧ w'.cell? ⟨(w1.heap.size + 2), 3, none⟩ = some (.int .i64 0) ∧ w'.cell? ⟨(w1.heap.size + 2), 4, none⟩ = some (.int .i64 0) ∧ w'.cell? ⟨(w1.heap.size + 2), 5, none⟩ = some (.int .i64 0) ∧ w'.cell? ⟨(w1.heap.size + 2), 6, none⟩ = some (.int .i64 0)) ((((w1.alloc (.map #[] 0)).alloc (.map #[] 0)).alloc (.cells #[.slice none 0 0, .int .i64 0, .slice none 0 0, .int .i64 0, .int .i64 0, .int .i64 0, .int .i64 0] 74)).drew) := ⟨hHeld, z0, z1, z2, z3, z4, z5, z6⟩
        refine wpAnyH_take (i := 1) (oi := { dst := some 17, op := _, type := _, pos := _, after := _, guard := _ }) (v := .pointer (some ⟨(w1.heap.size + 2), 0, none⟩)) rfl (by kernel_rfl) (by kernel_rfl) (by kernel_rfl) (fun _ _ _ h => h) (Or.inl ⟨by rfl, ?_⟩) (by assumption) ?_
        · intro w hSw
          (try dsimp only at hSw)
          first | (go_simp; done) | (go_simp; with_reducible rfl)
        (try simp only [Act.put, List.setIfInBounds_toArray, List.set_cons_zero, List.set_cons_succ])
        refine wpAnyH_take (i := 2) (oi := { dst := some 18, op := _, type := _, pos := _, after := _, guard := _ }) (v := .agg #[.slice none 0 0, .int .i64 0, .slice none 0 0, .int .i64 0, .int .i64 0, .int .i64 0, .int .i64 0]) rfl (by kernel_rfl) (by kernel_rfl) (by kernel_rfl) (fun _ _ _ h => h) (Or.inl ⟨by rfl, ?_⟩) (by assumption) ?_
        · intro w hSw
          (try dsimp only at hSw)
          first | (go_simp; done) | (go_simp; with_reducible rfl)
        (try simp only [Act.put, List.setIfInBounds_toArray, List.set_cons_zero, List.set_cons_succ])
        refine wpAnyH_take (i := 9) (oi := { dst := some 25, op := _, type := _, pos := _, after := _, guard := _ }) (v := .agg #[.slice none 0 0, .int .i64 0, .slice none 0 0, .int .i64 0, .int .i64 0, .int .i64 0, .int .i64 0, va, V, vb, .map (some (w1.heap.size + 1)), .map (some w1.heap.size), .int .i64 pc, .int .i64 0]) rfl (by kernel_rfl) (by kernel_rfl) (by kernel_rfl) (fun _ _ _ h => h) (Or.inl ⟨by rfl, ?_⟩) (by assumption) ?_
        · intro w hSw
          (try dsimp only at hSw)
          first | (go_simp; done) | (go_simp; with_reducible rfl)
        (try simp only [Act.put, List.setIfInBounds_toArray, List.set_cons_zero, List.set_cons_succ])
        refine wpAnyH_ready (rs := [10]) (by kernel_rfl) (by simp) ?_
        refine AllReadyH.cons (o := { dst := some 26, op := _, type := _, pos := _, after := _, guard := _ }) rfl (fun K hK => ?_) ?_
        · go_simp
          refine hK.out _ _ ⟨⟨Ext.cell (S := []) (by (repeat (first | (with_reducible exact Ext.refl [] _) | (with_reducible exact Ext.drew [] _) | (with_reducible assumption) | (with_reducible refine Ext.trans ?_ (Ext.drew [] _)) | (with_reducible refine Ext.trans ?_ (Ext.alloc [] _ _))))) c0 (by simp), Ext.cell (S := []) (by (repeat (first | (with_reducible exact Ext.refl [] _) | (with_reducible exact Ext.drew [] _) | (with_reducible assumption) | (with_reducible refine Ext.trans ?_ (Ext.drew [] _)) | (with_reducible refine Ext.trans ?_ (Ext.alloc [] _ _))))) c1 (by simp), Ext.cell (S := []) (by (repeat (first | (with_reducible exact Ext.refl [] _) | (with_reducible exact Ext.drew [] _) | (with_reducible assumption) | (with_reducible refine Ext.trans ?_ (Ext.drew [] _)) | (with_reducible refine Ext.trans ?_ (Ext.alloc [] _ _))))) c2 (by simp)⟩, Ext.cell (S := []) (by (repeat (first | (with_reducible exact Ext.refl [] _) | (with_reducible exact Ext.drew [] _) | (with_reducible assumption) | (with_reducible refine Ext.trans ?_ (Ext.drew [] _)) | (with_reducible refine Ext.trans ?_ (Ext.alloc [] _ _))))) z0 (by simp), Ext.cell (S := []) (by (repeat (first | (with_reducible exact Ext.refl [] _) | (with_reducible exact Ext.drew [] _) | (with_reducible assumption) | (with_reducible refine Ext.trans ?_ (Ext.drew [] _)) | (with_reducible refine Ext.trans ?_ (Ext.alloc [] _ _))))) z1 (by simp), Ext.cell (S := []) (by (repeat (first | (with_reducible exact Ext.refl [] _) | (with_reducible exact Ext.drew [] _) | (with_reducible assumption) | (with_reducible refine Ext.trans ?_ (Ext.drew [] _)) | (with_reducible refine Ext.trans ?_ (Ext.alloc [] _ _))))) z2 (by simp), Ext.cell (S := []) (by (repeat (first | (with_reducible exact Ext.refl [] _) | (with_reducible exact Ext.drew [] _) | (with_reducible assumption) | (with_reducible refine Ext.trans ?_ (Ext.drew [] _)) | (with_reducible refine Ext.trans ?_ (Ext.alloc [] _ _))))) z3 (by simp), Ext.cell (S := []) (by (repeat (first | (with_reducible exact Ext.refl [] _) | (with_reducible exact Ext.drew [] _) | (with_reducible assumption) | (with_reducible refine Ext.trans ?_ (Ext.drew [] _)) | (with_reducible refine Ext.trans ?_ (Ext.alloc [] _ _))))) z4 (by simp), Ext.cell (S := []) (by (repeat (first | (with_reducible exact Ext.refl [] _) | (with_reducible exact Ext.drew [] _) | (with_reducible assumption) | (with_reducible refine Ext.trans ?_ (Ext.drew [] _)) | (with_reducible refine Ext.trans ?_ (Ext.alloc [] _ _))))) z5 (by simp), Ext.cell (S := []) (by (repeat (first | (with_reducible exact Ext.refl [] _) | (with_reducible exact Ext.drew [] _) | (with_reducible assumption) | (with_reducible refine Ext.trans ?_ (Ext.drew [] _)) | (with_reducible refine Ext.trans ?_ (Ext.alloc [] _ _))))) z6 (by simp)⟩ (fun hHeld => ?_)
          clear hK K
          (try simp only [Act.put, List.setIfInBounds_toArray, List.set_cons_zero, List.set_cons_succ])
          refine wpAnyH_take (i := 11) (oi := { dst := some 4, op := _, type := _, pos := _, after := _, guard := _ }) (v := .pointer (some ⟨(w1.heap.size + 3), 0, none⟩)) rfl (by kernel_rfl) (by kernel_rfl) (by kernel_rfl) (fun _ _ _ h => h) (Or.inl ⟨by rfl, ?_⟩) (by assumption) ?_
          · intro w hSw
            (try dsimp only at hSw)
            first | (go_simp; done) | (go_simp; with_reducible rfl)
          (try simp only [Act.put, List.setIfInBounds_toArray, List.set_cons_zero, List.set_cons_succ])
          refine wpAnyH_take (i := 12) (oi := { dst := some 5, op := _, type := _, pos := _, after := _, guard := _ }) (v := .int .i64 0) rfl (by kernel_rfl) (by kernel_rfl) (by kernel_rfl) (fun _ _ _ h => h) (Or.inl ⟨by rfl, ?_⟩) (by assumption) ?_
          · intro w hSw
            (try dsimp only at hSw)
            first | (go_simp; done) | (go_simp; with_reducible rfl)
          (try simp only [Act.put, List.setIfInBounds_toArray, List.set_cons_zero, List.set_cons_succ])
          refine wpAnyH_done (by kernel_rfl) ?_ _
          go_wp2_with fail
          go_ret2
          exact HFin.out (((w1.alloc (.map #[] 0)).alloc (.map #[] 0)).alloc (.cells #[.slice none 0 0, .int .i64 0, .slice none 0 0, .int .i64 0, .int .i64 0, .int .i64 0, .int .i64 0] 74)) (w1.heap.size + 1) w1.heap.size (by (repeat (first | (with_reducible exact Ext.refl [] _) | (with_reducible exact Ext.drew [] _) | (with_reducible assumption) | (with_reducible refine Ext.trans ?_ (Ext.drew [] _)) | (with_reducible refine Ext.trans ?_ (Ext.alloc [] _ _))))) (by simp [World.size_alloc]) (hp_old (hp_new (by simp [World.size_alloc]))) (hp_old (hp_old (hp_new rfl))) (by omega) (by omega) (by omega) _ rfl
        · exact AllReadyH.nil
      exact AllReadyH.nil
    exact AllReadyH.nil
  exact AllReadyH.nil


end Go.Proofs.YtjbbomokgpoilaaGreatDoor
