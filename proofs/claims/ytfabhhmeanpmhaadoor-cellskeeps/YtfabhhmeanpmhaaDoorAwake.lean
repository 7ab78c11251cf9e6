/-
  The program's Text at one number, and awake; no statement is proved here.
-/
import Derived.Test.YtfabhhmeanpmhaaDoorFind
import Derived.Test.YtfabhhmeanpmhaaDoorRow
import Derived.Laws.Append
import Derived.Laws.IdiomStrings
namespace Go.Proofs.YtfabhhmeanpmhaaDoor
open Go.RowKit

theorem small7 (w : World) : Calls Tryd.prog 83 #[.int .i64 7] w (fun e w' => e = .returned (.string ⟨#[55]⟩) ∧ w' = w) := by
  go_enter Tryd.func83, Tryd.ntmps83
  go_wp2
  go_ret
  exact ⟨rfl, rfl⟩

def OnePost (w : World) (e : Ending) (w' : World) : Prop :=
  ∃ g c, e = .returned (.slice (some ⟨g, 0, none⟩) 1 c) ∧ w.heap.size ≤ g ∧ w'.cell? ⟨g, 0, none⟩ = some (.int .u8 55) ∧ Ext [] w w'

theorem und9 : Tryd.prog.underlying 9 = some .string := by kernel_rfl

theorem app7 (w : World) : ∃ c w', (Builtin.append_ #[56, 9] 56 #[.slice none 0 0, .string ⟨#[55]⟩]).run Tryd.prog w = .ok (.slice (some ⟨w.heap.size, 0, none⟩) 1 c) w' ∧ w'.cell? ⟨w.heap.size, 0, none⟩ = some (.int .u8 55) ∧ Ext [] w w' := by
  obtain ⟨i, hi, hz, hs, hb⟩ := info_parts info5
  have h := run_append_nil_string (P := Tryd.prog) w 56 9 56 5 i (.int .u8 0) Tryd.underlying56 und9 hi hz ⟨#[55]⟩ (by decide) (by decide) (by rw [hb]; decide)
  refine ⟨_, _, h, ?_, (Ext.drew [] _).trans (Ext.alloc [] _ _)⟩
  rw [cell_of_row _ _ _ _ _ _ (by have := heap_alloc_new w.drew (.cells ((⟨#[55]⟩ : ByteArray).data.map (fun b => Value.int .u8 b.toNat) ++ Builtin.zeroCells (Value.int .u8 0).cells (grownCap w (⟨#[55]⟩ : ByteArray).size 0 5 - (⟨#[55]⟩ : ByteArray).size)) 5); simpa using this), Array.getElem?_append_left (by simp)]
  rfl

theorem uint7 (w : World) : Calls Tryd.prog 75 #[.slice none 0 0, .int .u64 7, .int .i64 10] w (OnePost w) := by
  obtain ⟨c, w', hr, h1, h2⟩ := app7 w
  go_enter Tryd.func75, Tryd.ntmps75
  go_wp2_with (first | (go_at_call 83; refine met (small7 _) ?_) | (at_builtin; refine wpList_append_run2 rfl _ _ 56 9 rfl _ _ _ rfl rfl hr ?_))
  go_ret
  exact ⟨_, _, rfl, Nat.le_refl _, h1, h2⟩

theorem int7 (w : World) : Calls Tryd.prog 59 #[.slice none 0 0, .int .i64 7, .int .i64 10] w (OnePost w) := by
  have K := uint7 w
  go_enter Tryd.func59, Tryd.ntmps59
  go_wp2_with (first | (go_at_call 75; refine K.mono ?_; rintro e w1 ⟨g, c, rfl, h1, h2, h3⟩))
  go_ret
  exact ⟨_, _, rfl, h1, h2, h3⟩
theorem aint7 (w : World) : Calls Tryd.prog 35 #[.slice none 0 0, .int .i64 7, .int .i64 10] w (OnePost w) := by
  have K := int7 w
  go_enter Tryd.func35, Tryd.ntmps35
  go_wp2_with (first | (go_at_call 59; refine K.mono ?_; rintro e w1 ⟨g, c, rfl, h1, h2, h3⟩))
  go_ret
  exact ⟨_, _, rfl, h1, h2, h3⟩

theorem acell7 (w : World) (bx : Value) : Calls Tryd.prog 34 #[.slice none 0 0, .int .i64 2, .agg #[.int .u64 7, .string ⟨#[]⟩, .int .i64 0, bx]] w (OnePost w) := by
  have hE := Ext.alloc [] w (.cells #[.int .u64 7, .string ⟨#[]⟩, .int .i64 0, bx] 49)
  have K := aint7 (w.alloc (.cells #[.int .u64 7, .string ⟨#[]⟩, .int .i64 0, bx] 49))
  have HE := hid hE
  clear hE
  go_enter Tryd.func34, Tryd.ntmps34
  go_wp2_with (first | (go_at_call 35; refine K.mono ?_; rintro e w1 ⟨g, c, rfl, h1, h2, h3⟩))
  go_ret
  exact ⟨_, _, rfl, Nat.le_trans HE.out.size h1, h2, HE.out.trans h3⟩

def TellPost (w : World) (bb : Nat) (e : Ending) (w' : World) : Prop :=
  ∃ rv g c, e = .returned rv ∧ w.heap.size ≤ g ∧ w'.cell? ⟨g, 0, none⟩ = some (.int .u8 55) ∧ w'.cell? ⟨bb, 0, none⟩ = some (.slice (some ⟨g, 0, none⟩) 1 c) ∧ Ext [bb] w w'

def int2 : Ty := ⟨2, 0, 0, 0, []⟩
theorem int2_parts : parts int2 = [] := by decide
theorem int2_sound : Sound [int2] := by
  have h0 : ∀ i : Nat, i < [int2].length → i = 0 := fun i hi => by simp at hi; omega
  refine ⟨by simp, fun i hi => ?_, fun i hi => ?_⟩
  · rw [h0 i hi]
    have e : tyAt [int2] (0 : Nat) = int2 := rfl
    refine ⟨⟨?_, ?_⟩, by decide⟩
    · rw [e]; simp [Clean, int2]
    · rw [e]; simp [int2]
  · rw [h0 i hi]
    intro h
    exact absurd h (by decide)
def c7 : Cl := .mk 7 ⟨#[]⟩ 0 []
theorem c7_ok : vchk [int2] 1 (0 : Nat) [c7] = 0 := by
  refine vchk_ok (bad_ok int2_sound (by simp)) ⟨by decide, rfl, fun i hi => ?_⟩
  obtain rfl : i = 0 := by simp at hi; omega
  refine ⟨?_, fun h => absurd rfl h⟩
  show Fits 2 7 ⟨#[]⟩ 0 0
  simp [Fits]

set_option maxRecDepth 100000 in
set_option maxHeartbeats 1000000 in
theorem tell7 (w : World) (tb bb fb b vb : Nat) (hct : w.cell? ⟨tb, 0, none⟩ = some (.slice (some ⟨b, 0, none⟩) 1 1)) (hbb : w.heap[bb]? = some (.cells #[.slice none 0 0] 56 (0, 0)))
    (t0 : w.cell? ⟨b, 0, none⟩ = some (.int .i64 2)) (t1 : w.cell? ⟨b, 1, none⟩ = some (.int .i64 0)) (t2 : w.cell? ⟨b, 2, none⟩ = some (.int .i64 0)) (t3 : w.cell? ⟨b, 3, none⟩ = some (.int .i64 0)) (t4 : w.cell? ⟨b, 4, none⟩ = some (.slice none 0 0))
    (v0 : w.cell? ⟨vb, 0, none⟩ = some (.int .u64 7)) (v1 : w.cell? ⟨vb, 1, none⟩ = some (.string ⟨#[]⟩)) (v2 : w.cell? ⟨vb, 2, none⟩ = some (.int .i64 0)) (v3 : w.cell? ⟨vb, 3, none⟩ = some (.slice none 0 0)) :
    Calls Tryd.prog 31 #[.int .i64 0, .slice (some ⟨vb, 0, none⟩) 1 1, .pointer (some ⟨tb, 0, none⟩), .pointer (some ⟨bb, 0, none⟩), .pointer (some ⟨fb, 0, none⟩)] w (TellPost w bb) := by
  have K := partsOf_any w.heap.size int2 none 0 w ⟨.inl rfl, by decide⟩ (fun h => absurd h (by decide)) (fun b o h => by cases h)
  rw [int2_parts] at K
  have K2 : Calls Tryd.prog 32 #[.agg #[.int .i64 2, .int .i64 0, .int .i64 0, .int .i64 0, .slice none 0 0]] w (LPost w.heap.size (int2.fields.length ≤ 0) w []) := K
  clear K
  go_enter Tryd.func31, Tryd.ntmps31
  go_upto_region 16 with (first | (go_at_call 32; refine K2.mono ?_; clear K2; rintro e w1 ⟨pa, pc, rfl, _, hE1, _, _⟩; have v0 := hE1.cell v0 (by simp); have v1 := hE1.cell v1 (by simp); have v2 := hE1.cell v2 (by simp); have v3 := hE1.cell v3 (by simp)))
  have hE2 := hE1.trans (Ext.alloc [] w1 (.cells #[.int .u64 7, .string ⟨#[]⟩, .int .i64 0, .slice none 0 0] 49))
  have cb := heap_alloc_new w1 (.cells #[.int .u64 7, .string ⟨#[]⟩, .int .i64 0, .slice none 0 0] 49)
  generalize w1.alloc (.cells #[.int .u64 7, .string ⟨#[]⟩, .int .i64 0, .slice none 0 0] 49) = w2 at *
  generalize w1.heap.size = cbk at *
  have hE3 := hE2.trans (Ext.drew [] w2)
  have K3 := acell7 w2.drew (.slice none 0 0)
  have cb3 := (Ext.drew [] w2).keep cb (by simp)
  have bb3 := hE3.keep hbb (by simp)
  have x0 := hE3.cell t0 (by simp)
  have x1 := hE3.cell hct (by simp)
  have y0 : w2.drew.cell? ⟨bb, 0, none⟩ = some (.slice none 0 0) := by rw [cell_of_row _ _ _ _ _ _ bb3]; rfl
  have z0 : w2.drew.cell? ⟨cbk, 0, none⟩ = some (.int .u64 7) := by rw [cell_of_row _ _ _ _ _ _ cb3]; rfl
  have z1 : w2.drew.cell? ⟨cbk, 1, none⟩ = some (.string ⟨#[]⟩) := by rw [cell_of_row _ _ _ _ _ _ cb3]; rfl
  have z2 : w2.drew.cell? ⟨cbk, 2, none⟩ = some (.int .i64 0) := by rw [cell_of_row _ _ _ _ _ _ cb3]; rfl
  have z3 : w2.drew.cell? ⟨cbk, 3, none⟩ = some (.slice none 0 0) := by rw [cell_of_row _ _ _ _ _ _ cb3]; rfl
  have HE3 := hid hE3
  have HB3 := hid bb3
  clear hE1 hE2 hE3 cb cb3 bb3 hct hbb t0 t1 t2 t3 t4 v0 v1 v2 v3
  go_region_law (go_simp; go_wp2_with (first | (go_at_call 34; refine K3.mono ?_; clear K3; rintro e w4 ⟨g, c, rfl, hg, hgc, hE4⟩; have bb4 := hE4.keep HB3.out (by simp); have f4 : w4.frozen? ⟨bb, 0, none⟩ = false := frozen_of_row _ _ _ _ _ bb4; have y4 := hE4.cell y0 (by simp); have x4 := hE4.cell x0 (by simp); have x5 := hE4.cell x1 (by simp); have u0 := hE4.cell z0 (by simp); have u1 := hE4.cell z1 (by simp); have u2 := hE4.cell z2 (by simp); have u3 := hE4.cell z3 (by simp); have HB4 := hid bb4; have HE4 := hid hE4; clear bb4 hE4)))
  all_goals
    go_wp2_with fail
    go_ret
    have hlt := lt_of_heap HB3.out
    refine ⟨_, g, c, rfl, Nat.le_trans HE3.out.size hg, ?_, ?_, ((HE3.out.trans HE4.out).mono (by simp)).trans (Ext.setCell [bb] _ _ _ (by simp))⟩
    · exact (Ext.setCell [bb] _ _ _ (by simp)).cell hgc (by simp; omega)
    · rw [cell_of_row _ _ _ _ _ _ (row_set1 HB4.out)]; rfl

theorem und5 : Tryd.prog.underlying 5 = some (.int .u8) := by kernel_rfl
theorem conv7 (w : World) (g c : Nat) (h : w.cell? ⟨g, 0, none⟩ = some (.int .u8 55)) : (convert 56 9 (.slice (some ⟨g, 0, none⟩) 1 c)).run Tryd.prog w = .ok (.string ⟨#[55]⟩) w :=
  run_convert_bytes_back (P := Tryd.prog) w 56 9 5 ⟨g, 0, none⟩ c [55] Tryd.underlying56 und5 und9 (fun j hj => by obtain rfl : j = 0 := (by simp at hj; omega); rw [Addr.add_lit]; exact h)

def TxPost (w : World) (e : Ending) (w' : World) : Prop := e = .returned (.tuple #[.string ⟨#[55]⟩, .int .i64 0]) ∧ Ext [] w w'

set_option maxRecDepth 100000 in
set_option maxHeartbeats 1000000 in
theorem text7 (w : World) (b vb : Nat) (hG : Gl w)
    (t0 : w.cell? ⟨b, 0, none⟩ = some (.int .i64 2)) (t1 : w.cell? ⟨b, 1, none⟩ = some (.int .i64 0)) (t2 : w.cell? ⟨b, 2, none⟩ = some (.int .i64 0)) (t3 : w.cell? ⟨b, 3, none⟩ = some (.int .i64 0)) (t4 : w.cell? ⟨b, 4, none⟩ = some (.slice none 0 0))
    (v0 : w.cell? ⟨vb, 0, none⟩ = some (.int .u64 7)) (v1 : w.cell? ⟨vb, 1, none⟩ = some (.string ⟨#[]⟩)) (v2 : w.cell? ⟨vb, 2, none⟩ = some (.int .i64 0)) (v3 : w.cell? ⟨vb, 3, none⟩ = some (.slice none 0 0)) :
    Calls Tryd.prog 13 #[.slice (some ⟨b, 0, none⟩) 1 1, .int .i64 0, .slice (some ⟨vb, 0, none⟩) 1 1] w (TxPost w) := by
  have hT : Tab w (some ⟨b, 0, none⟩) [int2] := by
    refine ⟨.inr ⟨b, 0, rfl, fun i hi => ⟨none, 0, ?_⟩⟩, by simp⟩
    obtain rfl : i = 0 := by simp at hi; omega
    exact ⟨t0, t1, t2, t3, t4, .inl rfl, by simp [tyAt, int2]⟩
  have hC : Cs 1 w (some ⟨vb, 0, none⟩) [c7] := by
    refine ⟨by simp, .inr ⟨vb, 0, rfl, fun i hi => ⟨none, 0, ?_, ?_⟩⟩⟩
    all_goals obtain rfl : i = 0 := by simp at hi; omega
    · exact ⟨v0, v1, v2, v3, by decide, by decide, by decide, by decide⟩
    · exact Cs.nil _ _ _
  have hE := Ext.alloc [] w (.cells #[.slice (some ⟨b, 0, none⟩) 1 1] 22)
  have hb0 := heap_alloc_new w (.cells #[.slice (some ⟨b, 0, none⟩) 1 1] 22)
  have K := pcheck_any [int2] (some ⟨b, 0, none⟩) 1 1 rfl (Nat.le_refl _) 1 (0 : Nat) (some ⟨vb, 0, none⟩) [c7] 1 1 _ (hC.keep0 hE) rfl (hT.keep0 hE) (hG.keep0 hE)
  rw [c7_ok] at K
  have HE := hid hE
  have HB0 := hid hb0
  clear hC hT hG hE hb0
  go_enter Tryd.func13, Tryd.ntmps13
  go_upto_region 7 with (first | (go_at_call 9; refine K.mono ?_; clear K; rintro e w1 ⟨rfl, hE1⟩))
  have hE2 := (Ext.alloc [] w1 (.cells #[.slice none 0 0] 56)).trans (Ext.alloc [] _ (.cells #[.func (.func 31) #[] #[.pointer (some ⟨w.heap.size, 0, none⟩), .pointer (some ⟨w1.heap.size, 0, none⟩), .pointer (some ⟨w1.heap.size + 1, 0, none⟩)]] 57))
  have hb1 := heap_alloc2_old w1 (.cells #[.slice none 0 0] 56) (.cells #[.func (.func 31) #[] #[.pointer (some ⟨w.heap.size, 0, none⟩), .pointer (some ⟨w1.heap.size, 0, none⟩), .pointer (some ⟨w1.heap.size + 1, 0, none⟩)]] 57)
  have hb2 := heap_alloc2_new w1 (.cells #[.slice none 0 0] 56) (.cells #[.func (.func 31) #[] #[.pointer (some ⟨w.heap.size, 0, none⟩), .pointer (some ⟨w1.heap.size, 0, none⟩), .pointer (some ⟨w1.heap.size + 1, 0, none⟩)]] 57)
  have hsz := hE1.size
  generalize (w1.alloc (.cells #[.slice none 0 0] 56)).alloc (.cells #[.func (.func 31) #[] #[.pointer (some ⟨w.heap.size, 0, none⟩), .pointer (some ⟨w1.heap.size, 0, none⟩), .pointer (some ⟨w1.heap.size + 1, 0, none⟩)]] 57) = w2 at *
  have hE12 := (HE.out.trans hE1).trans hE2
  have hb3 := (hE1.trans hE2).keep HB0.out (by simp)
  have q0 : w2.cell? ⟨w.heap.size, 0, none⟩ = some (.slice (some ⟨b, 0, none⟩) 1 1) := by rw [cell_of_row _ _ _ _ _ _ hb3]; rfl
  have q2 : w2.cell? ⟨w1.heap.size + 1, 0, none⟩ = some (.func (.func 31) #[] #[.pointer (some ⟨w.heap.size, 0, none⟩), .pointer (some ⟨w1.heap.size, 0, none⟩), .pointer (some ⟨w1.heap.size + 1, 0, none⟩)]) := by rw [cell_of_row _ _ _ _ _ _ hb2]; rfl
  have K2 := tell7 w2 w.heap.size w1.heap.size (w1.heap.size + 1) b vb q0 hb1 (hE12.cell t0 (by simp)) (hE12.cell t1 (by simp)) (hE12.cell t2 (by simp)) (hE12.cell t3 (by simp)) (hE12.cell t4 (by simp)) (hE12.cell v0 (by simp)) (hE12.cell v1 (by simp)) (hE12.cell v2 (by simp)) (hE12.cell v3 (by simp))
  have HE2 := hid hE12
  have hz : w.heap.size ≤ w1.heap.size := by simp at hsz; omega
  clear hE1 hE2 hE12 hb1 hb2 hb3 q0 t0 t1 t2 t3 t4 v0 v1 v2 v3
  go_wp2_with (first | (go_at_call 31; refine K2.mono ?_; clear K2; rintro e w4 ⟨rv, g, c, rfl, hg, hgc, hbc, hE4⟩; have hcv := conv7 w4 g c hgc))
  go_ret2
  exact ⟨rfl, HE2.out.on hE4 (by simpa using hz)⟩

theorem awake_any (w : World) (hG : Gl w) : Calls Tryd.prog 8 #[] w (SayPost w (.bool true)) := by
  have hE := (Ext.alloc [] w (.cells #[.int .i64 2, .int .i64 0, .int .i64 0, .int .i64 0, .slice none 0 0] 45)).trans (Ext.alloc [] _ (.cells #[.int .u64 7, .string ⟨#[]⟩, .int .i64 0, .slice none 0 0] 49))
  have h1 := heap_alloc2_old w (.cells #[.int .i64 2, .int .i64 0, .int .i64 0, .int .i64 0, .slice none 0 0] 45) (.cells #[.int .u64 7, .string ⟨#[]⟩, .int .i64 0, .slice none 0 0] 49)
  have h2 := heap_alloc2_new w (.cells #[.int .i64 2, .int .i64 0, .int .i64 0, .int .i64 0, .slice none 0 0] 45) (.cells #[.int .u64 7, .string ⟨#[]⟩, .int .i64 0, .slice none 0 0] 49)
  have K := text7 _ w.heap.size (w.heap.size + 1) (hG.keep0 hE) (by rw [cell_of_row _ _ _ _ _ _ h1]; rfl) (by rw [cell_of_row _ _ _ _ _ _ h1]; rfl) (by rw [cell_of_row _ _ _ _ _ _ h1]; rfl) (by rw [cell_of_row _ _ _ _ _ _ h1]; rfl) (by rw [cell_of_row _ _ _ _ _ _ h1]; rfl)
    (by rw [cell_of_row _ _ _ _ _ _ h2]; rfl) (by rw [cell_of_row _ _ _ _ _ _ h2]; rfl) (by rw [cell_of_row _ _ _ _ _ _ h2]; rfl) (by rw [cell_of_row _ _ _ _ _ _ h2]; rfl)
  have HE := hid hE
  clear hE h1 h2 hG
  go_enter Tryd.func8, Tryd.ntmps8
  go_wp2_with (first | (go_at_call 13; refine K.mono ?_; clear K; rintro e w1 ⟨rfl, hE1⟩))
  go_ret
  exact ⟨rfl, HE.out.trans hE1⟩

end Go.Proofs.YtfabhhmeanpmhaaDoor
