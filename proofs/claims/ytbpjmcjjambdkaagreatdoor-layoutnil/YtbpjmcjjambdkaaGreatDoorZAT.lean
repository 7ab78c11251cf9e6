/-
  CSets, New, Object, MFind, CSetB: joined by program; no statement is proved here.
-/
import Derived.Test.YtbpjmcjjambdkaaGreatDoorZAS
import Derived.Lib.SliceRun
import Derived.Test.YtbpjmcjjambdkaaGreatDoorZAQ
import Derived.Test.YtbpjmcjjambdkaaGreatDoorZAO
/-
  The program's Clone, Slots, Shade, Set, Start, Color, Phase and Cycles; no statement is proved here.
-/
namespace Go.Proofs.YtbpjmcjjambdkaaGreatDoor.Co
open Go.RowKit

theorem phase_any (p : Nat) (G : Gs) (B : Nat → Prop) (w : World) (h : Gr w p G B) : Calls Tryz.prog 107 #[.pointer (some ⟨p, 0, none⟩)] w fun e w' => e = .returned (.int .i64 G.ph) ∧ w' = w := by
  obtain ⟨vn, vl, SV, h, _⟩ := h
  obtain ⟨_, _, _, f3, _⟩ := h.flds
  clear h
  go_enter Tryz.func107, Tryz.ntmps107
  go_wp2
  go_ret
  exact ⟨rfl, rfl⟩
theorem cycles_any (p : Nat) (G : Gs) (B : Nat → Prop) (w : World) (h : Gr w p G B) : Calls Tryz.prog 108 #[.pointer (some ⟨p, 0, none⟩)] w fun e w' => e = .returned (.int .i64 G.cy) ∧ w' = w := by
  obtain ⟨vn, vl, SV, h, _⟩ := h
  obtain ⟨_, _, _, _, f4, _⟩ := h.flds
  clear h
  go_enter Tryz.func108, Tryz.ntmps108
  go_wp2
  go_ret
  exact ⟨rfl, rfl⟩
theorem color_any (p : Nat) (G : Gs) (B : Nat → Prop) (x : Int) (w : World) (h : Gr w p G B) (hlen : G.ns.length ≤ 65536) : Calls Tryz.prog 96 #[.pointer (some ⟨p, 0, none⟩), .int .i64 x] w fun e w' => e = .returned (.tuple #[.int .i64 (if lvB G x then ((ndAt G.ns x.toNat).c : Int) else 0), .int .i64 (fl G x)]) ∧ w' = w := by
  have K := fault_any p G B x w h hlen
  unfold fl at *
  cases hb : lvB G x
  · rw [hb] at K
    simp only [Bool.false_eq_true, if_false] at K
    clear h hb
    go_enter Tryz.func96, Tryz.ntmps96
    go_wp2_with (go_at_call 145; refine met K ?_)
    go_ret2
    exact ⟨rfl, rfl⟩
  · rw [hb] at K
    simp only [if_true] at K
    obtain ⟨hx0, hl⟩ := lvB_iff.1 hb
    obtain ⟨i, rfl⟩ : ∃ i : Nat, x = i := ⟨x.toNat, by omega⟩
    simp only [Int.toNat_natCast] at hl
    have hi := lvN_lt hl
    obtain ⟨vn, vl, SV, h, _⟩ := h
    obtain ⟨g, c, rfl, hc, hgp, hgl, c0, _, _, _⟩ := h.node hi
    obtain ⟨f0, _⟩ := h.flds
    have hil : (i : Int) < G.ns.length := by omega
    clear h hb hl
    simp only [Int.toNat_natCast]
    generalize (ndAt G.ns i).c = q at *
    generalize G.ns.length = n at *
    go_enter Tryz.func96, Tryz.ntmps96
    go_wp2_with (go_at_call 145; refine met K ?_)
    go_ret2
    exact ⟨rfl, rfl⟩

/-- A list of its own, and an error. -/
def SlPost (w : World) (L : List Int) (er : Int) (e : Ending) (w' : World) : Prop :=
  ∃ v, e = .returned (.tuple #[v, .int .i64 er]) ∧ w'.ownsRow w.heap.size 3 1 v L.length (L.map (Value.int .i64)) ∧ Ext [] w w'
def ClPost (w : World) (L : List Int) (e : Ending) (w' : World) : Prop :=
  ∃ v, e = .returned v ∧ w'.ownsRow w.heap.size 3 1 v L.length (L.map (Value.int .i64)) ∧ Ext [] w w'

theorem clone_any (v : Value) (L : List Int) (w : World) (hL : Sl w v L) (hlen : L.length ≤ 1000000) : Calls Tryz.prog 85 #[v] w (ClPost w L) := by
  rcases hL with ⟨rfl, rfl⟩ | ⟨g, rfl, hr0⟩
  · clear hlen
    have heq : ∀ w, Sem.run Tryz.prog (binOp .eql 29 (.slice none 0 0) (.slice none 0 0)) w = .ok (.bool true) w := fun w => Lib.run_eql_slice_nil w 29 3 none 0 0 0 0 Tryz.underlying29
    go_enter Tryz.func85, Tryz.ntmps85
    go_wp2
    go_ret
    exact ⟨_, rfl, own_nil _ _ _ _, Ext.refl _ _⟩
  · have hE0 := Ext.alloc [] w (.cells #[] 3)
    obtain ⟨i, hi0, hz0, hz1, hz2⟩ := info_parts info3
    have hown : (w.alloc (.cells #[] 3)).ownsRow w.heap.size 3 1 (.slice (some ⟨w.heap.size, 0, none⟩) 0 0) 0 [] := World.ownsRow_made w #[] 0 (Nat.le_refl _) (Nat.zero_le _) rfl
    have hL0 := hE0.keep hr0 (by simp)
    obtain ⟨v', w', hr, ho, hg, _⟩ := run_append_own (P := Tryz.prog) (w.alloc (.cells #[] 3)) w.heap.size 29 29 3 i _ 1 8 Tryz.underlying29 hi0 hz0 hz1 hz2 rfl (by decide) _ 0 [] hown ⟨g, 0, none⟩ L.length L.length (L.map (Value.int .i64)) (by simp) (fun j u hj => by rw [Addr.add_lit, cell_of_row _ _ _ _ _ _ hL0, Nat.zero_add, List.getElem?_toArray]; exact hj) (fun u hu => by obtain ⟨y, _, rfl⟩ := List.mem_map.1 hu; rfl) (by unfold maxLen; omega) (by omega) (by simp)
    rw [Nat.zero_add, List.nil_append] at ho
    have HF : Hid (ClPost w L (.returned v') w') := ⟨v', rfl, ho, (hE0.on (ext_grown hg) (by simp [Value.ownBlock]))⟩
    clear hr0 hE0 hown hL0 ho hg hz0 hz1 hz2 hi0
    generalize L.length = len at *
    have heq : ∀ w, Sem.run Tryz.prog (binOp .eql 29 (.slice (some ⟨g, 0, none⟩) len len) (.slice none 0 0)) w = .ok (.bool false) w := fun w => Lib.run_eql_slice_nil w 29 3 (some ⟨g, 0, none⟩) len len 0 0 Tryz.underlying29
    go_enter Tryz.func85, Tryz.ntmps85
    go_wp2_with (at_builtin; refine wpList_append_run rfl _ _ 29 rfl _ _ _ rfl rfl hr ?_)
    go_ret
    exact HF.out

/-- What the slots of a number are. -/
def slV (G : Gs) (x : Int) : List Int := if lvB G x then (ndAt G.ns x.toNat).s else []
theorem slots_any (p : Nat) (G : Gs) (B : Nat → Prop) (x : Int) (w : World) (h : Gr w p G B) (hI : Iv G) : Calls Tryz.prog 100 #[.pointer (some ⟨p, 0, none⟩), .int .i64 x] w (SlPost w (slV G x) (fl G x)) := by
  have K := fault_any p G B x w h hI.len
  unfold fl slV at *
  cases hb : lvB G x
  · rw [hb] at K
    simp only [Bool.false_eq_true, if_false] at K ⊢
    clear h hb hI
    go_enter Tryz.func100, Tryz.ntmps100
    go_wp2_with (go_at_call 145; refine met K ?_)
    go_ret2
    exact ⟨_, rfl, own_nil _ _ _ _, Ext.refl _ _⟩
  · rw [hb] at K
    simp only [if_true] at K ⊢
    obtain ⟨hx0, hl⟩ := lvB_iff.1 hb
    obtain ⟨i, rfl⟩ : ∃ i : Nat, x = i := ⟨x.toNat, by omega⟩
    simp only [Int.toNat_natCast] at hl ⊢
    have hi := lvN_lt hl
    have hsl := hI.sl i
    obtain ⟨vn, vl, SV, h, _⟩ := h
    obtain ⟨g, c, rfl, hc, hgp, hgl, _, c1, _, _⟩ := h.node hi
    obtain ⟨f0, _⟩ := h.flds
    have hil : (i : Int) < G.ns.length := by omega
    have K2 := clone_any _ _ w (h.slo i hi) (by omega)
    clear h hb hl hI
    generalize (ndAt G.ns i).s = L at *
    generalize svAt SV i = sv at *
    generalize G.ns.length = n at *
    go_enter Tryz.func100, Tryz.ntmps100
    go_wp2_with (first | (go_at_call 145; refine met K ?_) | (go_at_call 85; refine K2.mono ?_; intro e w1 hq; obtain ⟨v, he, hq1, hq2⟩ := hq; subst he))
    go_ret2
    exact ⟨v, rfl, hq1, hq2⟩

theorem shadeC_any (p : Nat) (G : Gs) (B : Nat → Prop) (x : Int) (w : World) (h : Gr w p G B) (hI : Iv G) : Calls Tryz.prog 115 #[.pointer (some ⟨p, 0, none⟩), .int .i64 x] w (GPost w p (shade G x).1 B (.int .i64 (shade G x).2)) := by
  have K := fault_any p G B x w h hI.len
  have hlln := hI.lln
  have hlen := hI.len
  unfold fl at *
  unfold shade
  cases hb : lvB G x
  · rw [hb] at K
    simp only [Bool.false_eq_true, if_false, if_true] at K ⊢
    have HF := hid (gr_same h (.int .i64 4))
    clear h hb hI
    go_enter Tryz.func115, Tryz.ntmps115
    go_wp2_with (go_at_call 145; refine met K ?_)
    go_ret
    exact HF.out
  · rw [hb] at K
    simp only [Bool.true_eq_false, if_true, if_false] at K ⊢
    obtain ⟨hx0, hl⟩ := lvB_iff.1 hb
    have K2 := shade_any p G B x w h (.inr ⟨hx0, lvN_lt hl⟩) (by omega) hlen
    clear h hb hl hI
    go_enter Tryz.func115, Tryz.ntmps115
    go_wp2_with (first | (go_at_call 145; refine met K ?_) | (go_at_call 154; refine K2.mono ?_; intro e w1 hq; obtain ⟨he, hq⟩ := hq; subst he))
    go_ret
    exact ⟨rfl, hq⟩

end Go.Proofs.YtbpjmcjjambdkaaGreatDoor.Co

/-
  A new heap; no statement is proved here.
-/
namespace Go.Proofs.YtbpjmcjjambdkaaGreatDoor
open Go.RowKit

theorem rnew_bad (k : Int) (w : World) (h : k < 0 ∨ 1024 < k) : Calls Tryz.prog 123 #[.int .i64 k] w fun e w' => e = .returned (.tuple #[.pointer none, .int .i64 2]) ∧ w' = w := by
  rcases h with h | h
  · go_enter Tryz.func123, Tryz.ntmps123
    go_wp2
    go_ret2
    exact ⟨rfl, rfl⟩
  · have h2 : ¬ k < 0 := by omega
    go_enter Tryz.func123, Tryz.ntmps123
    go_wp2
    go_ret2
    exact ⟨rfl, rfl⟩

def RNewPost (w : World) (k : Nat) (e : Ending) (w' : World) : Prop :=
  ∃ p v, e = .returned (.tuple #[.pointer (some ⟨p, 0, none⟩), .int .i64 0]) ∧ w'.heap[p]? = some (.cells #[v] 114 (0, 0)) ∧ Lst w' v (newR k) ∧ w.heap.size ≤ p ∧ (∀ g, v.ownBlock = some g → w.heap.size ≤ g) ∧ Ext [] w w'
theorem lst_row {w : World} {g : Nat} (L : List Rn) (n : Nat) (hn : L.length = n) (hm : n ≤ maxLen) (h : w.heap[g]? = some (.cells (rcells L).toArray 129 (0, 0))) : Lst w (.slice (some ⟨g, 0, none⟩) n n) L := by
  subst hn
  exact ⟨rcells_len L, .inr ⟨g, _, _, rfl, Nat.zero_le _, h, Nat.le_refl _, hm, by simp [rcells_len], by simp [← rcells_len]⟩⟩
theorem rnew_ok (k : Nat) (w : World) (h : k ≤ 1024) : Calls Tryz.prog 123 #[.int .i64 k] w (RNewPost w k) := by
  by_cases h0 : k = 0
  · subst h0
    go_enter Tryz.func123, Tryz.ntmps123
    go_wp2
    go_ret2
    exact ⟨_, _, rfl, heap_alloc_new _ _, lst_nil _, Nat.le_refl _, by simp [Value.ownBlock], Ext.alloc _ _ _⟩
  · have hk : 0 < k := by omega
    go_enter Tryz.func123, Tryz.ntmps123
    go_wp2
    go_ret2
    refine ⟨_, .slice (some ⟨w.heap.size + 1, 0, none⟩) 1 1, rfl, ?_, ?_, Nat.le_refl _, by simp [Value.ownBlock], ?_⟩
    · exact heap_alloc2_old _ _ _
    · have e : newR k = [⟨0, k, false⟩] := by simp [newR, h0]
      rw [e]
      exact lst_row [⟨0, k, false⟩] 1 rfl (by decide) (heap_alloc2_new _ _ _)
    · exact (Ext.alloc _ _ _).trans (Ext.alloc _ _ _)

theorem info179 : (Tryz.prog.info? 179).map (fun i => (i.zero, i.size, i.bytes)) = some (some (.pointer none), 1, 8) := by kernel_rfl

/-- A new heap. -/
def newH (k : Nat) : Hs := ⟨k, newR k, [], List.replicate ((k + 1) * 256) 0⟩
theorem newH_ok {k : Nat} (h : k ≤ 1024) : Hv (newH k) := by
  refine ⟨inv_new k h, ?_, by simp [newH], by simp [newH], fun x hx => ?_⟩
  · unfold newH newR
    simp only [List.map_nil]
    split <;> simp [used]
  · simp only [newH, List.mem_replicate] at hx
    omega
def HNewPost (w : World) (k : Nat) (e : Ending) (w' : World) : Prop :=
  ∃ h cs F, e = .returned (.tuple #[.pointer (some ⟨h, 0, none⟩), .int .i64 0]) ∧ Hw w' h 0 117 cs F (newH k) ∧ w.heap.size ≤ h ∧ (∀ b, F b → w.heap.size ≤ b) ∧ cs.size = 3 ∧ Ext [] w w'

theorem hnew_bad (k : Int) (w : World) (h : k < 0 ∨ 1024 < k) : Calls Tryz.prog 77 #[.int .i64 k] w fun e w' => e = .returned (.tuple #[.pointer none, .int .i64 2]) ∧ w' = w := by
  go_enter Tryz.func77, Tryz.ntmps77
  go_wp2_with (first | (go_at_call 123; refine met (rnew_bad _ _ h) ?_) | fail "no arm")
  go_ret2
  exact ⟨rfl, rfl⟩

set_option maxRecDepth 100000 in
set_option maxHeartbeats 2000000 in
theorem hnew_ok (k : Nat) (w : World) (h : k ≤ 1024) : Calls Tryz.prog 77 #[.int .i64 k] w (HNewPost w k) := by
  have K1 := rnew_ok k w h
  have K2 := fun u => pageAddr_any (k : Int) u (by omega)
  have K3 := fun u => anew_ok ((k + 1) * 256) u (by omega)
  have e1 : ((((k + 1) * 256 : Nat)) : Int) = ((k : Int) + 1) * 256 := by omega
  rw [e1] at K3
  obtain ⟨i, hi, hz0, hz1, hz2⟩ := info_parts info179
  have HMK : Hid (∀ u, (Instr.makeSlice 115 (.int .i64 (k : Int)) (.int .i64 (k : Int))).run Tryz.prog u = .ok (.slice (some ⟨u.heap.size, 0, none⟩) k k) (u.alloc (.cells (ocells (List.replicate k none)).toArray 179))) := by
    intro u
    have hr := run_make (P := Tryz.prog) u 115 179 i _ Tryz.underlying115 hi hz0 .i64 .i64 k k (by omega) (Int.le_refl _) (by rw [hz2]; omega) (by omega)
    rw [hz1] at hr
    simp only [Int.toNat_natCast] at hr
    have hm : madeCells (Value.pointer none).cells (k * 1) = (ocells (List.replicate k none)).toArray := by
      apply Array.toList_inj.1
      rw [show (Value.pointer none).cells = #[.pointer none] from rfl, toList_madeCells_one]
      simp [ocells]
    rw [hm] at hr
    exact hr
  clear hz0 hz1 hz2 hi i e1
  go_enter Tryz.func77, Tryz.ntmps77
  go_upto_region 7 with (first | (go_at_call 123; refine K1.mono ?_; clear K1; rintro e w1 ⟨p, v, rfl, hb, hl, hp, hv, hE1⟩) | (go_at_call 125; refine met (K2 _) ?_) | (go_at_call 124; refine (K3 _).mono ?_; clear K3; rintro e w2 ⟨rfl, hA, hE2⟩) | fail "no arm")
  have hmk := HMK.out w2.drew
  have hb2 := hE2.keep hb (by simp)
  have hl2 := hl.keep0 hE2
  have hac := hA.cell
  rw [List.length_replicate] at hac
  have hpc : w2.cell? ⟨p, 0, none⟩ = some v := by rw [cell_of_row _ _ _ _ _ _ hb2]; rfl
  obtain ⟨q, hq⟩ : ∃ q, q = w1.heap.size + 1 := ⟨_, rfl⟩
  rw [← hq] at hA hac ⊢
  have HQ := hid hq
  obtain ⟨nb, hnb⟩ : ∃ nb, nb = (k + 1) * 256 := ⟨_, rfl⟩
  rw [← hnb] at hA hac
  have HNB := hid hnb
  have HA := hid hA
  have HL2 := hid hl2
  have HE := hid (hE1.trans hE2)
  have HP := hid hp
  have HV := hid hv
  have HS1 := hid hE1.size
  have hE3 := Ext.alloc [] w2 (.cells (ocells (List.replicate k none)).toArray 179)
  have c0 := (Ext.drew [] w2).cell hac (by simp)
  have c1 := (Ext.drew [] w2).cell hpc (by simp)
  have c2 := hE3.cell hac (by simp)
  have c3 := hE3.cell hpc (by simp)
  have hfin : Hid (∀ W, W = ((w2.alloc (.cells (ocells (List.replicate k none)).toArray 179)).alloc (.cells #[.slice (some ⟨w1.heap.size, 0, none⟩) nb nb, v, .slice (some ⟨w2.heap.size, 0, none⟩) k k] 117)).drew → Hw W (w2.heap.size + 1) 0 117 #[.slice (some ⟨w1.heap.size, 0, none⟩) nb nb, v, .slice (some ⟨w2.heap.size, 0, none⟩) k k] (fun b => w.heap.size ≤ b ∧ b ≠ w2.heap.size + 1) (newH k) ∧ Ext [] w W) := by
    rintro W rfl
    have e4 := hE3.trans (Ext.alloc [] _ (.cells #[.slice (some ⟨w1.heap.size, 0, none⟩) nb nb, v, .slice (some ⟨w2.heap.size, 0, none⟩) k k] 117))
    have e5 := e4.trans (Ext.drew [] _)
    have hz1 := hE1.size
    have hz2 := hE2.size
    refine ⟨⟨w1.heap.size, w2.heap.size, v, fun _ => (0, 0), List.replicate k none, ⟨?_, by simp, by decide⟩, by decide, ?_, ?_, ?_, hl2.keep0 e5, ?_, by simp [newH], ?_, by simp [newH], by simp [newH], ?_, ?_, ?_, by simp [newH], by simp, newH_ok h⟩, (hE1.trans hE2).trans e5⟩
    · exact (Ext.drew [] _).keep (heap_alloc2_new w2 _ _) (by simp)
    · simp only [newH, List.length_replicate, ← hnb]; rfl
    · simp only [List.length_replicate]; rfl
    · show Row _ _ (List.replicate ((k + 1) * 256) 0)
      rw [← hnb]
      exact hA.row.keep e5 (by simp)
    · exact (Ext.drew [] _).keep (heap_alloc2_old w2 _ _) (by simp)
    · intro i hi
      simp only [newH, spanAt, List.find?_nil, Option.map_none]
      rw [List.getD_eq_getElem?_getD, List.getElem?_replicate]
      split <;> rfl
    · have := lt_of_heap hA.row; exact ⟨hz1, by omega⟩
    · exact ⟨by omega, by omega⟩
    · intro g hg
      have h1 := hv g hg
      have h2 := hl2.lt g hg
      exact ⟨h1, by omega⟩
  clear hA hl hl2 hb hb2 hE1 hE2 hE3 hp hv hq hnb HMK hac hpc
  generalize (ocells (List.replicate k none)).toArray = X at *
  go_region_law (fail)
  all_goals
    go_wp2_with fail
    go_ret2
    obtain ⟨f1, f2⟩ := hfin.out _ rfl
    have z2 := HE.out.size
    exact ⟨w2.heap.size + 1, _, _, rfl, f1, by omega, fun b hb => hb.1, rfl, f2⟩

end Go.Proofs.YtbpjmcjjambdkaaGreatDoor

/-
  object: an object told; no statement is proved here.
-/
namespace Go.Proofs.YtbpjmcjjambdkaaGreatDoor
open Go.RowKit

theorem info60 : (Tryz.prog.info? 60).map (fun i => (i.zero, i.size, i.bytes)) = some (some (.agg #[.int .i64 0, .int .i64 0, .int .i64 0, .slice none 0 0]), 4, 48) := by kernel_rfl

/-- An object's value. -/
def obV (a s t : Int) : Value := .agg #[.int .i64 a, .int .i64 s, .int .i64 t, .slice none 0 0]
theorem load34 {w : World} {g : Nat} {a s t : Int} {v : Value} (h : w.heap[g]? = some (.cells #[.int .i64 a, .int .i64 s, .int .i64 t, v] 60 (0, 0))) : (loadVar 60 ⟨g, 0, none⟩).run Tryz.prog w = .ok (.agg #[.int .i64 a, .int .i64 s, .int .i64 t, v]) w := by
  have c0 : w.cell? ⟨g, 0, none⟩ = some (.int .i64 a) := by rw [cell_of_row _ _ _ _ _ _ h]; rfl
  have c1 : w.cell? ⟨g, 1, none⟩ = some (.int .i64 s) := by rw [cell_of_row _ _ _ _ _ _ h]; rfl
  have c2 : w.cell? ⟨g, 2, none⟩ = some (.int .i64 t) := by rw [cell_of_row _ _ _ _ _ _ h]; rfl
  have c3 : w.cell? ⟨g, 3, none⟩ = some v := by rw [cell_of_row _ _ _ _ _ _ h]; rfl
  simp [go_sem, c0, c1, c2, c3]
theorem results_cell_tmp2 {P : Program} {fn : Func} {p q : Tmp} {ty : TypeId} (h : fn.results = #[.cell p ty, .tmp q]) (tmps : Array Value) (w : World) (a : Addr) (v : Value)
    (hp : tmps.getD p undef = .pointer (some a)) (h1 : (loadVar ty a).run P w = .ok v w) : (results fn tmps).run P w = .ok (.tuple #[v, tmps.getD q undef]) w := by
  have hp' : tmps[p]?.getD undef = .pointer (some a) := by simpa using hp
  simp [results, h, hp', asAddr, h1]

set_option maxRecDepth 100000 in
set_option maxHeartbeats 4000000 in
theorem object_any (s g : Nat) (start pages room used : Int) (i : Nat) (S : List Slot) (w : World) (hS : Sp w s g start pages room used S) (h1 : 0 ≤ start ∧ start ≤ 1024) (h2 : 0 ≤ room ∧ room ≤ 65536) (h3 : i < S.length) (h4 : S.length ≤ 65536) :
    Calls Tryz.prog 99 #[.pointer (some ⟨s, 0, none⟩), .int .i64 i] w (SayPost w (obV ((start + 1) * 256 + i * room) (S.getD i (0, 0)).1 (S.getD i (0, 0)).2)) := by
  obtain ⟨wa, hwa⟩ : ∃ wa, wa = w.alloc (.cells #[.int .i64 0, .int .i64 0, .int .i64 0, .slice none 0 0] 60) := ⟨_, rfl⟩
  have hE0 : Ext [] w wa := by rw [hwa]; exact Ext.alloc _ _ _
  have hS0 := hS.keep hE0 (by simp) (by simp)
  have hb0 : wa.heap[w.heap.size]? = some (.cells #[.int .i64 0, .int .i64 0, .int .i64 0, .slice none 0 0] 60 (0, 0)) := by rw [hwa]; exact heap_alloc_new _ _
  have KA := fun n => addr_dr s g start pages room used i S (wa.drewN n) (hS0.keep (Ext.drewN [] wa n) (by simp) (by simp)) h1 h2 (by omega)
  have c4 := hS0.c4
  obtain ⟨a0, a1⟩ := hS0.at_ h3
  have hil : (i : Int) < (S.length : Nat) := by omega
  obtain ⟨ad, had⟩ : ∃ ad : Int, ad = (start + 1) * 256 + i * room := ⟨_, rfl⟩
  rw [← had] at KA ⊢
  have fz0 := frozen_of_row wa w.heap.size 0 _ _ hb0
  have fz1 := frozen_of_row wa w.heap.size 1 _ _ hb0
  have fz2 := frozen_of_row wa w.heap.size 2 _ _ hb0
  have fz3 := frozen_of_row wa w.heap.size 3 _ _ hb0
  have d0 : wa.cell? ⟨w.heap.size, 0, none⟩ = some (.int .i64 0) := by rw [cell_of_row _ _ _ _ _ _ hb0]; rfl
  have d1 : wa.cell? ⟨w.heap.size, 1, none⟩ = some (.int .i64 0) := by rw [cell_of_row _ _ _ _ _ _ hb0]; rfl
  have d2 : wa.cell? ⟨w.heap.size, 2, none⟩ = some (.int .i64 0) := by rw [cell_of_row _ _ _ _ _ _ hb0]; rfl
  have d3 : wa.cell? ⟨w.heap.size, 3, none⟩ = some (.slice none 0 0) := by rw [cell_of_row _ _ _ _ _ _ hb0]; rfl
  have HFin : Hid (∀ m, (loadVar 60 ⟨w.heap.size, 0, none⟩).run Tryz.prog (((((wa.drewN (1 + m)).setCell ⟨w.heap.size, 0, none⟩ (.int .i64 ad)).setCell ⟨w.heap.size, 1, none⟩ (.int .i64 (S.getD i (0, 0)).1)).setCell ⟨w.heap.size, 2, none⟩ (.int .i64 (S.getD i (0, 0)).2)).setCell ⟨w.heap.size, 3, none⟩ (.slice none 0 0)) = .ok (obV ad (S.getD i (0, 0)).1 (S.getD i (0, 0)).2) (((((wa.drewN (1 + m)).setCell ⟨w.heap.size, 0, none⟩ (.int .i64 ad)).setCell ⟨w.heap.size, 1, none⟩ (.int .i64 (S.getD i (0, 0)).1)).setCell ⟨w.heap.size, 2, none⟩ (.int .i64 (S.getD i (0, 0)).2)).setCell ⟨w.heap.size, 3, none⟩ (.slice none 0 0)) ∧
      Ext [] w (((((wa.drewN (1 + m)).setCell ⟨w.heap.size, 0, none⟩ (.int .i64 ad)).setCell ⟨w.heap.size, 1, none⟩ (.int .i64 (S.getD i (0, 0)).1)).setCell ⟨w.heap.size, 2, none⟩ (.int .i64 (S.getD i (0, 0)).2)).setCell ⟨w.heap.size, 3, none⟩ (.slice none 0 0))) := by
    intro m
    have hb1 := (Ext.drewN [] wa (1 + m)).keep hb0 (by simp)
    refine ⟨?_, ?_⟩
    · have := heap_setCell_same _ _ 3 _ _ (.slice none 0 0) (heap_setCell_same _ _ 2 _ _ (.int .i64 (S.getD i (0, 0)).2) (heap_setCell_same _ _ 1 _ _ (.int .i64 (S.getD i (0, 0)).1) (heap_setCell_same _ _ 0 _ _ (.int .i64 ad) hb1)))
      exact load34 this
    · refine Ext.on (hE0.trans (Ext.drewN [] wa (1 + m))) (S := [w.heap.size]) ?_ (by simp)
      exact (((Ext.setCell _ _ _ _ (by simp)).trans (Ext.setCell _ _ _ _ (by simp))).trans (Ext.setCell _ _ _ _ (by simp))).trans (Ext.setCell _ _ _ _ (by simp))
  clear hS hS0 had h1 h2 h3 h4 hb0 hE0
  generalize (S.getD i (0, 0)).1 = x0 at *
  generalize (S.getD i (0, 0)).2 = x1 at *
  generalize S.length = len at *
  go_enter Tryz.func99, Tryz.ntmps99
  go_upto_region 1 with fail
  rw [← hwa]
  clear hwa
  have KA1 := KA 1
  go_region_law (go_simp; go_wp2_with (first | (go_at_call 98; refine KA1.mono ?_; clear KA1; rintro e w2 ⟨rfl, m, rfl⟩) | fail "no arm"))
  all_goals
    go_wp2_with fail
    refine bodyPost_ret (results_cell1 rfl _ _ ⟨w.heap.size, 0, none⟩ _ rfl (HFin.out _).1) rfl ⟨rfl, (HFin.out _).2⟩

end Go.Proofs.YtbpjmcjjambdkaaGreatDoor

/-
  The live object that begins at an address; no statement is proved here.
-/
namespace Go.Proofs.YtbpjmcjjambdkaaGreatDoor
open Go.RowKit

/-- What stands for no object. -/
def moZ : Value := .agg #[.int .i64 0, .slice none 0 0]

theorem load89 {w : World} {g : Nat} {u : Int} {v : Value} (h : w.heap[g]? = some (.cells #[.int .i64 u, v] 105 (0, 0))) : (loadVar 105 ⟨g, 0, none⟩).run Tryz.prog w = .ok (.agg #[.int .i64 u, v]) w := by
  have c0 : w.cell? ⟨g, 0, none⟩ = some (.int .i64 u) := by rw [cell_of_row _ _ _ _ _ _ h]; rfl
  have c1 : w.cell? ⟨g, 1, none⟩ = some v := by rw [cell_of_row _ _ _ _ _ _ h]; rfl
  simp [go_sem, c0, c1]
/-- What a function answers whose first result is an object. -/
theorem res89 {fn : Func} {p q : Tmp} (hr : fn.results = #[.cell p 105, .tmp q]) {w : World} {g : Nat} {u er : Int} {v : Value} (h : w.heap[g]? = some (.cells #[.int .i64 u, v] 105 (0, 0))) (tmps : Array Value) (h4 : tmps.getD p undef = .pointer (some ⟨g, 0, none⟩)) (h5 : tmps.getD q undef = .int .i64 er) :
    (results fn tmps).run Tryz.prog w = .ok (.tuple #[.agg #[.int .i64 u, v], .int .i64 er]) w := by
  have := results_cell_tmp2 (P := Tryz.prog) hr tmps w ⟨g, 0, none⟩ _ h4 (load89 h)
  rw [h5] at this
  exact this
theorem set89 {w : World} {g : Nat} {c : Array Value} (h : w.heap[g]? = some (.cells c 105 (0, 0))) (hc : c.size = 2) (u : Int) (v : Value) : ((w.setCell ⟨g, 0, none⟩ (.int .i64 u)).setCell ⟨g, 1, none⟩ v).heap[g]? = some (.cells #[.int .i64 u, v] 105 (0, 0)) := by
  obtain ⟨x, y, rfl⟩ : ∃ x y, c = #[x, y] := ⟨c[0], c[1], by apply Array.ext (by simpa using hc); intro i h1 h2; rcases i with _ | _ | i; rfl; rfl; simp at h2; omega⟩
  rw [heap_setCell_same _ g 1 _ _ _ (heap_setCell_same _ g 0 _ _ _ h)]
  rfl
theorem ext89 {w W : World} (hE : Ext [] w W) {g : Nat} (hg : w.heap.size ≤ g) (u v : Value) : Ext [] w ((W.setCell ⟨g, 0, none⟩ u).setCell ⟨g, 1, none⟩ v) :=
  hE.on ((Ext.setCell [g] W _ _ (by simp)).trans (Ext.setCell [g] _ _ _ (by simp))) (by simpa using hg)

theorem find_nil (a : Int) (w : World) : Calls Tryz.prog 54 #[.pointer none, .int .i64 a] w (SayPost w (.tuple #[moZ, .int .i64 2])) := by
  have HF : Hid (Ext [] w (w.alloc (.cells #[.int .i64 0, .slice none 0 0] 105)) ∧ (w.alloc (.cells #[.int .i64 0, .slice none 0 0] 105)).heap[w.heap.size]? = some (.cells #[.int .i64 0, .slice none 0 0] 105 (0, 0))) := ⟨Ext.alloc [] w _, heap_alloc_new _ _⟩
  unfold moZ
  go_enter Tryz.func54, Tryz.ntmps54
  go_wp2
  refine bodyPost_ret (res89 rfl HF.out.2 _ ?_ ?_) rfl ⟨rfl, HF.out.1⟩
  · rfl
  · rfl

section
variable {w : World} {p : Nat} {M : Ms} {X : Co.Fo} {cs : Array Value} {cl : Nat → Nat} {bo ba : Nat} {fo : Int → Option Value}

theorem find_none (h : Mm w p M X cs cl bo ba fo) (a : Int) (hi : I64 a) (hn : M.ob a = none) : Calls Tryz.prog 54 #[.pointer (some ⟨p, 0, none⟩), .int .i64 a] w (SayPost w (.tuple #[moZ, .int .i64 4])) := by
  have hpt := h.pt
  obtain ⟨f10, _, _, _, fz⟩ := h.flds
  have hE := Ext.alloc [] w (.cells #[.int .i64 0, .slice none 0 0] 105)
  have c10 := hE.cell f10 (by simp)
  have hl := (h.mo.keepB (w' := w.alloc (.cells #[.int .i64 0, .slice none 0 0] 105)) (hE.block _ h.mo.lt (by simp))).look (t := 118) (e := 105) Tryz.underlying118 (z := moZ) (by exact Tryz.zeroValue105 _) hi true
  rw [h.on a hn] at hl
  simp only [Option.getD, Option.isSome, if_true] at hl
  unfold moZ at *
  have HF : Hid (Ext [] w ((w.alloc (.cells #[.int .i64 0, .slice none 0 0] 105)).alloc (.cells #[.int .i64 0, .slice none 0 0] 105)) ∧ ((w.alloc (.cells #[.int .i64 0, .slice none 0 0] 105)).alloc (.cells #[.int .i64 0, .slice none 0 0] 105)).heap[w.heap.size]? = some (.cells #[.int .i64 0, .slice none 0 0] 105 (0, 0))) :=
    ⟨hE.trans (Ext.alloc _ _ _), (Ext.alloc [] _ _).keep (heap_alloc_new _ _) (by simp)⟩
  clear h hE
  go_enter Tryz.func54, Tryz.ntmps54
  go_wp2
  refine bodyPost_ret (res89 rfl HF.out.2 _ ?_ ?_) rfl ⟨rfl, HF.out.1⟩
  · rfl
  · rfl

theorem find_some (h : Mm w p M X cs cl bo ba fo) (hlen : M.G.ns.length ≤ 65536) (a : Int) (hi : I64 a) (o : Mo) (g : Nat) (hf : fo a = some (moV o g)) :
    Calls Tryz.prog 54 #[.pointer (some ⟨p, 0, none⟩), .int .i64 a] w (SayPost w (.tuple #[if Co.lvB M.G o.nd then moV o g else moZ, .int .i64 (if Co.lvB M.G o.nd then 0 else 4)])) := by
  have hpt := h.pt
  obtain ⟨f10, _, _, _, fz⟩ := h.flds
  have hE := Ext.alloc [] w (.cells #[.int .i64 0, .slice none 0 0] 105)
  have c10 := hE.cell f10 (by simp)
  have hl := (h.mo.keepB (w' := w.alloc (.cells #[.int .i64 0, .slice none 0 0] 105)) (hE.block _ h.mo.lt (by simp))).look (t := 118) (e := 105) Tryz.underlying118 (z := moZ) (by exact Tryz.zeroValue105 _) hi true
  rw [hf] at hl
  simp only [Option.getD, Option.isSome, if_true] at hl
  have hW : Ext [] w ((w.alloc (.cells #[.int .i64 0, .slice none 0 0] 105)).alloc (.cells #[.int .i64 o.nd, .slice (some ⟨g, 0, none⟩) o.sl.length o.sl.length] 105)) := hE.trans (Ext.alloc _ _ _)
  have KC : Hid (∀ n, Calls Tryz.prog 96 #[.pointer (some ⟨p, 0, none⟩), .int .i64 o.nd] (((w.alloc (.cells #[.int .i64 0, .slice none 0 0] 105)).alloc (.cells #[.int .i64 o.nd, .slice (some ⟨g, 0, none⟩) o.sl.length o.sl.length] 105)).drewN n) (Qt (((w.alloc (.cells #[.int .i64 0, .slice none 0 0] 105)).alloc (.cells #[.int .i64 o.nd, .slice (some ⟨g, 0, none⟩) o.sl.length o.sl.length] 105)).drewN n) (.tuple #[.int .i64 (if Co.lvB M.G o.nd then ((Co.ndAt M.G.ns o.nd.toNat).c : Int) else 0), .int .i64 (if Co.lvB M.G o.nd then 0 else 4)]))) := fun n =>
    (Co.color_any p (M.G.wx X) _ o.nd _ ((h.keep0 (hW.trans (Ext.drewN _ _ n))).g) hlen).mono (by rintro e w1 ⟨rfl, rfl⟩; exact ⟨rfl, 0, rfl⟩)
  have KC := KC.out
  have HG : Hid (∀ n, Ext [] w ((((w.alloc (.cells #[.int .i64 0, .slice none 0 0] 105)).alloc (.cells #[.int .i64 o.nd, .slice (some ⟨g, 0, none⟩) o.sl.length o.sl.length] 105)).drewN n)) ∧ ((((w.alloc (.cells #[.int .i64 0, .slice none 0 0] 105)).alloc (.cells #[.int .i64 o.nd, .slice (some ⟨g, 0, none⟩) o.sl.length o.sl.length] 105)).drewN n)).heap[w.heap.size]? = some (.cells #[.int .i64 0, .slice none 0 0] 105 (0, 0))) :=
    fun n => ⟨hW.trans (Ext.drewN _ _ n), ((Ext.alloc [] _ _).trans (Ext.drewN [] _ n)).keep (heap_alloc_new _ _) (by simp)⟩
  clear h hE hW
  unfold moZ moV at *
  cases hb : Co.lvB M.G o.nd
  · simp only [hb, Bool.false_eq_true, if_false] at KC ⊢
    go_enter Tryz.func54, Tryz.ntmps54
    go_wp2_with fail
    go_quiet ((go_at_call 96; exact Calls.quiet_of (KC _)))
    go_wp2_with fail
    refine bodyPost_ret (res89 rfl (set89 (HG.out _).2 rfl _ _) _ ?_ ?_) rfl ⟨rfl, ext89 (HG.out _).1 (Nat.le_refl _) _ _⟩
    · rfl
    · rfl
  · simp only [hb, if_true] at KC ⊢
    go_enter Tryz.func54, Tryz.ntmps54
    go_wp2_with fail
    go_quiet ((go_at_call 96; exact Calls.quiet_of (KC _)))
    go_wp2_with fail
    refine bodyPost_ret (res89 rfl (set89 (HG.out _).2 rfl _ _) _ ?_ ?_) rfl ⟨rfl, ext89 (HG.out _).1 (Nat.le_refl _) _ _⟩
    · rfl
    · rfl

end

end Go.Proofs.YtbpjmcjjambdkaaGreatDoor

/-
  The program's Set and Start; no statement is proved here.
-/
namespace Go.Proofs.YtbpjmcjjambdkaaGreatDoor.Co
open Go.RowKit

theorem nw_nw {B : Nat → Prop} {w w1 : World} (h : w.heap.size ≤ w1.heap.size) : ∀ k, Nw (Nw B w) w1 k → Nw B w k := by
  rintro k (q | q)
  · exact q
  · exact .inr (by omega)

set_option maxHeartbeats 2000000 in
theorem set_any (p : Nat) (G : Gs) (B : Nat → Prop) (n j x : Int) (w : World) (h : Gr w p G B) (hI : Iv G) : Calls Tryz.prog 185 #[.pointer (some ⟨p, 0, none⟩), .int .i64 n, .int .i64 j, .int .i64 x] w (GPost w p (set G n j x).1 B (.int .i64 (set G n j x).2)) := by
  have K := fault_any p G B n w h hI.len
  have K2 := live_any p G B x w h hI.len
  have hlln := hI.lln
  have hlen := hI.len
  unfold fl at *
  cases hb : lvB G n
  · rw [hb] at K
    simp only [Bool.false_eq_true, if_false] at K
    have HF := hid (gr_same h (.int .i64 4))
    rw [show set G n j x = (G, 4) by simp [set, hb]]
    clear h hb hI K2
    go_enter Tryz.func185, Tryz.ntmps185
    go_wp2_with (go_at_call 145; refine met K ?_)
    go_ret
    exact HF.out
  · rw [hb] at K
    simp only [if_true] at K
    obtain ⟨hn0, hl⟩ := lvB_iff.1 hb
    obtain ⟨i, rfl⟩ : ∃ i : Nat, n = i := ⟨n.toNat, by omega⟩
    simp only [Int.toNat_natCast] at hl
    have hi := lvN_lt hl
    by_cases hx : x ≠ -1 ∧ lvB G x = false
    · have HF := hid (gr_same h (.int .i64 4))
      rw [show set G i j x = (G, 4) by simp only [set, hb]; rw [if_neg (by simp), if_pos hx]]
      rw [hx.2] at K2
      have hx1 : (x != -1) = true := by simpa using hx.1
      clear h hb hI hx hl
      go_enter Tryz.func185, Tryz.ntmps185
      go_wp2_with (first | (go_at_call 145; refine met K ?_) | (go_at_call 153; refine met K2 ?_))
      go_ret
      exact HF.out
    · have hx' : x = -1 ∨ lvB G x = true := by
        by_cases q : x = -1
        · exact .inl q
        · right
          simp only [ne_eq, q, not_false_eq_true, true_and, Bool.not_eq_false] at hx
          exact hx
      have hGr := h
      obtain ⟨vn, vl, SV, hm, ft⟩ := h
      obtain ⟨g, c, rfl, hc, hgp, hgl, _, c1, _, _⟩ := hm.node hi
      obtain ⟨f0, _⟩ := hm.flds
      have hil : (i : Int) < G.ns.length := by omega
      obtain ⟨sa, hsv, hIs⟩ := (hm.slo i hi).is
      have hsl := hI.sl i
      rw [hsv] at c1
      by_cases hj : j < 0 ∨ ((ndAt G.ns i).s.length : Int) ≤ j
      · have HF := hid (gr_same hGr (.int .i64 5))
        rw [show set G i j x = (G, 5) by simp only [set, hb, Int.toNat_natCast]; rw [if_neg (by simp), if_neg hx, if_pos hj]]
        clear hGr hm ft hb hI hl hIs hsv hx
        generalize (ndAt G.ns i).s.length = ls at *
        generalize G.ns.length = n at *
        rcases hx' with rfl | hx'
        · rcases hj with hj | hj
          · go_enter Tryz.func185, Tryz.ntmps185
            go_wp2_with (first | (go_at_call 145; refine met K ?_) | (go_at_call 153; refine met K2 ?_))
            go_ret
            exact HF.out
          · have hj0 : ¬ j < 0 := by omega
            go_enter Tryz.func185, Tryz.ntmps185
            go_wp2_with (first | (go_at_call 145; refine met K ?_) | (go_at_call 153; refine met K2 ?_))
            go_ret
            exact HF.out
        · rw [hx'] at K2
          have hx1 : (x != -1) = true := by
            have := (lvB_iff.1 hx').1
            simp; omega
          clear hx'
          rcases hj with hj | hj
          · go_enter Tryz.func185, Tryz.ntmps185
            go_wp2_with (first | (go_at_call 145; refine met K ?_) | (go_at_call 153; refine met K2 ?_))
            go_ret
            exact HF.out
          · have hj0 : ¬ j < 0 := by omega
            go_enter Tryz.func185, Tryz.ntmps185
            go_wp2_with (first | (go_at_call 145; refine met K ?_) | (go_at_call 153; refine met K2 ?_))
            go_ret
            exact HF.out
      · obtain ⟨q, rfl⟩ : ∃ q : Nat, j = q := ⟨j.toNat, by omega⟩
        have hq : q < (ndAt G.ns i).s.length := by omega
        have HS : Hid (set G i q x = (setG G i q x, 0)) := by
          show _ = _
          simp only [set, hb, Int.toNat_natCast]
          rw [if_neg (by simp), if_neg hx, if_neg hj]
        rcases hm.slo i hi with ⟨_, hs0⟩ | ⟨gs, hsv2, hrow⟩
        · rw [hs0] at hq; simp at hq
        rw [hsv] at hsv2
        simp only [Value.slice.injEq, and_true] at hsv2
        subst hsv2
        have cs : w.cell? ⟨gs, q, none⟩ = some (.int .i64 ((ndAt G.ns i).s.getD q 0)) := by
          rw [cell_of_row _ _ _ _ _ _ hrow]; simp [hq]
        have hold : (ndAt G.ns i).s.getD q 0 ∈ (ndAt G.ns i).s := by simp [List.getD, hq]
        have hold2 := hI.cl i hl _ hold
        have KA := shade_gm p G B ((ndAt G.ns i).s.getD q 0) w _ _ _ hm ft (by
          rcases hold2 with r | r
          · exact .inl r
          · exact .inr ⟨(lvB_iff.1 r).1, lvN_lt (lvB_iff.1 r).2⟩) (by omega) hlen
        have HB : Hid (∀ w1, (∃ vl', Gm w1 p (.slice (some ⟨g, 0, none⟩) G.ns.length c) vl' SV (sh G ((ndAt G.ns i).s.getD q 0)) ∧ Ft (Nw B w) p (.slice (some ⟨g, 0, none⟩) G.ns.length c) vl' SV) → Fx B w w1 →
            Calls Tryz.prog 154 #[.pointer (some ⟨p, 0, none⟩), .int .i64 x] w1 (fun e w2 => e = .returned (.tuple #[]) ∧ (∃ u, w2.cell? ⟨gs, q, none⟩ = some (.int .i64 u)) ∧ w2.frozen? ⟨gs, q, none⟩ = false ∧ GPost w p (setG G i q x) B (.int .i64 0) (.returned (.int .i64 0)) (w2.setCell ⟨gs, q, none⟩ (.int .i64 x)))) := by
          rintro w1 ⟨vl1, h1, f1⟩ hX1
          have hI1 := iv_sh hI ((ndAt G.ns i).s.getD q 0)
          have hl1 := hI1.lln
          refine (shade_gm p _ (Nw B w) x w1 _ _ _ h1 f1 ?_ (by rw [sh_len] at hl1; omega) (by rw [sh_len]; exact hlen)).mono ?_
          · rcases hx' with r | r
            · exact .inl r
            · refine .inr ⟨(lvB_iff.1 r).1, ?_⟩
              rw [sh_len]; exact lvN_lt (lvB_iff.1 r).2
          · rintro e w2 ⟨rfl, ⟨vl2, h2, f2⟩, hX2⟩
            have hs2 : (ndAt (sh (sh G ((ndAt G.ns i).s.getD q 0)) x).ns i).s = (ndAt G.ns i).s := by rw [sh_s, sh_s]
            have hi2 : i < (sh (sh G ((ndAt G.ns i).s.getD q 0)) x).ns.length := by rw [sh_len, sh_len]; exact hi
            have hr2 : w2.heap[gs]? = some (.cells (((ndAt G.ns i).s.map (Value.int .i64))).toArray 3 (0, 0)) := by
              rcases h2.slo i hi2 with ⟨r, _⟩ | ⟨g', r, r2⟩
              · rw [hsv] at r; simp at r
              · rw [hsv] at r; simp at r; rw [hs2] at r2; rw [r.1]; exact r2
            refine ⟨rfl, ⟨(ndAt G.ns i).s.getD q 0, by rw [cell_of_row _ _ _ _ _ _ hr2]; simp [hq]⟩, frozen_of_row _ _ _ _ _ hr2, rfl, ⟨_, _, _, h2.slot i q x hi2 (by rw [hs2]; exact hsv), f2.mono (nw_nw hX1.size)⟩, ?_⟩
            refine (hX1.trans hX2 (fun k r => r)).trans (C := fun k => k = gs) (Fx.of_ext (S := [gs]) (Ext.setCell [gs] w2 _ _ (by simp)) (by simp)) ?_
            rintro k rfl
            exact .inl (ft.s i _ (by rw [hsv]; rfl))
        have hqi : (q : Int) < (ndAt G.ns i).s.length := by omega
        clear hGr hm ft hb hI hl hIs hsv hx hrow hold hold2 hj
        generalize (ndAt G.ns i).s.getD q 0 = old at *
        generalize (ndAt G.ns i).s.length = ls at *
        generalize G.ns.length = nn at *
        rcases hx' with rfl | hx'
        · go_enter Tryz.func185, Tryz.ntmps185
          go_wp2_with (first | (go_at_call 145; refine met K ?_) | (go_at_call 153; refine met K2 ?_))
          refine KA.mono ?_
          clear KA
          rintro e w1 ⟨rfl, hg1, hx1⟩
          have KB := HB.out w1 hg1 hx1
          clear HB hg1 hx1
          go_wp2_with fail
          refine KB.mono ?_
          clear KB
          rintro e w2 ⟨rfl, ⟨u, d0⟩, d1, hF⟩
          have HF := hid hF
          clear hF
          go_wp2_with fail
          go_ret
          rw [HS.out]
          exact HF.out
        · rw [hx'] at K2
          have hx1 : (x != -1) = true := by
            have := (lvB_iff.1 hx').1
            simp; omega
          clear hx'
          go_enter Tryz.func185, Tryz.ntmps185
          go_wp2_with (first | (go_at_call 145; refine met K ?_) | (go_at_call 153; refine met K2 ?_))
          refine KA.mono ?_
          clear KA
          rintro e w1 ⟨rfl, hg1, hx1⟩
          have KB := HB.out w1 hg1 hx1
          clear HB hg1 hx1
          go_wp2_with fail
          refine KB.mono ?_
          clear KB
          rintro e w2 ⟨rfl, ⟨u, d0⟩, d1, hF⟩
          have HF := hid hF
          clear hF
          go_wp2_with fail
          go_ret
          rw [HS.out]
          exact HF.out

end Go.Proofs.YtbpjmcjjambdkaaGreatDoor.Co
