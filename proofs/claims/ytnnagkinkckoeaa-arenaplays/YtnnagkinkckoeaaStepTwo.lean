/-
  One call of the played script, kind by kind: the arena and the plain list of bytes answer alike and hold the same bytes behind it; no statement is proved here.
-/
import Derived.Test.YtnnagkinkckoeaaStep
namespace Go.Proofs.Ytnnagkinkckoeaa
open Go.ChangeShapes Go.WideShapes Go.ChangeAt Go.RowKit
set_option linter.unusedVariables false

/-- The answer is true, and both hold the same bytes now. -/
def StepPost (w : World) (p g r l : Nat) (e : Ending) (w' : World) : Prop :=
  ∃ L' : List Int, e = .returned (.bool true) ∧ Ar w' p g L' ∧ Row w' r L' ∧ L'.length = l ∧ Ext [g, r] w w'

theorem Ar.box_ne {w : World} {p g : Nat} {L : List Int} (h : Ar w p g L) {r : Nat} {M : List Int} (hr : Row w r M) : p ≠ r := by
  rintro rfl
  have := h.box.symm.trans hr
  simp at this

set_option maxRecDepth 100000 in
set_option maxHeartbeats 1000000 in
theorem step_store (p g r : Nat) (L : List Int) (l : Nat) (K A N F V : Int) (a : Option Addr) (m c : Nat) (ys : List Int) (w : World) (hA : Ar w p g L) (hR : Row w r L) (hl : L.length = l) (hgr : g ≠ r)
    (hi : I64 A) (hf : I64 F) (hv : 0 ≤ V ∧ V < 18446744073709551616) (hS : Sl w a ys) (hm : ys.length = m) (hm2 : m ≤ 140737488355328) (hne : ∀ ad, a = some ad → ys ≠ [] → ad.block ≠ g ∧ ad.block ≠ r) (hk : K ≠ 1 ∧ K ≠ 2 ∧ K ≠ 3 ∧ K ≠ 4 ∧ K ≠ 5) :
    Calls Try.prog 12 #[.pointer (some ⟨p, 0, none⟩), .slice (some ⟨r, 0, none⟩) l l, .agg #[.int .i64 K, .int .i64 A, .int .i64 N, .int .i64 F, .int .u64 V, .slice a m c]] w (StepPost w p g r l) := by
  have b1 : (K == 1) = false := by simp; omega
  have b2 : (K == 2) = false := by simp; omega
  have b3 : (K == 3) = false := by simp; omega
  have b4 : (K == 4) = false := by simp; omega
  have b5 : (K == 5) = false := by simp; omega
  clear hk
  have hpl := lt_of_heap hA.box
  have hgl := hA.row.lt
  have hrl := hR.lt
  have hlen := hA.len
  have HA : Hid (Ar w p g L) := hA
  have HR : Hid (Row w r L) := hR
  have HS : Hid (Sl w a ys) := hS
  have HM : Hid (ys.length = m) := hm
  have HL : Hid (L.length = l) := hl
  have HN : Hid (∀ ad, a = some ad → ys ≠ [] → ad.block ≠ g ∧ ad.block ≠ r) := hne
  clear hA hR hS hm hl hne
  go_enter Try.func12, Try.ntmps12
  go_wp2
  go_region_held3 (fun w' => w'.cell? ⟨w.heap.size, 1, none⟩ = some (.int .i64 A) ∧ w'.cell? ⟨w.heap.size, 2, none⟩ = some (.int .i64 N) ∧ w'.cell? ⟨w.heap.size, 4, none⟩ = some (.int .u64 V))
      (first
        | go_keep
        | exact ⟨hE2.cell (hE1.cell (by simp) (by simp <;> omega)) (by simp; omega), hE2.cell (hE1.cell (by simp) (by simp <;> omega)) (by simp; omega), hE2.cell (hE1.cell (by simp) (by simp <;> omega)) (by simp; omega)⟩
        | exact ⟨hE1.cell (by simp) (by simp <;> omega), hE1.cell (by simp) (by simp <;> omega), hE1.cell (by simp) (by simp <;> omega)⟩)
      (first
        | (go_at_call 16; refine (store_all A N V hi hv p g _ L (HA.out.keep ((Ext.alloc [] w _).trans (Ext.drew [] _)) (by simp) (by simp))).mono ?_; rintro e w1 ⟨rfl, hA1, hE1⟩)
        | (go_at_call 28; refine (rstore_all A N V hi hv r l _ L (Row.keep (HR.out.keep ((Ext.alloc [] w _).trans (Ext.drew [] _)) (by simp)) hE1 (by simpa using Ne.symm hgr)) HL.out (by have := HL.out; omega)).mono ?_; rintro e w2 ⟨rfl, hR2, hE2⟩))
  go_wp2
  go_ret
  exact ⟨_, rfl, hA1.keep hE2 (by simp; rintro rfl; exact HA.out.box_ne HR.out rfl) (by simpa using hgr), hR2, (len_effS _ _ _ _).trans HL.out, (((Ext.alloc _ w _).trans (Ext.drew _ _)).trans (hE1.mono (by simp))).trans (hE2.mono (by simp))⟩

set_option maxRecDepth 100000 in
set_option maxHeartbeats 1000000 in
theorem step_clear (p g r : Nat) (L : List Int) (l : Nat) (K A N F V : Int) (a : Option Addr) (m c : Nat) (ys : List Int) (w : World) (hA : Ar w p g L) (hR : Row w r L) (hl : L.length = l) (hgr : g ≠ r)
    (hi : I64 A) (hf : I64 F) (hv : 0 ≤ V ∧ V < 18446744073709551616) (hS : Sl w a ys) (hm : ys.length = m) (hm2 : m ≤ 140737488355328) (hne : ∀ ad, a = some ad → ys ≠ [] → ad.block ≠ g ∧ ad.block ≠ r) (hk : K = 5) :
    Calls Try.prog 12 #[.pointer (some ⟨p, 0, none⟩), .slice (some ⟨r, 0, none⟩) l l, .agg #[.int .i64 K, .int .i64 A, .int .i64 N, .int .i64 F, .int .u64 V, .slice a m c]] w (StepPost w p g r l) := by
  subst hk
  have hpl := lt_of_heap hA.box
  have hgl := hA.row.lt
  have hrl := hR.lt
  have hlen := hA.len
  have HA : Hid (Ar w p g L) := hA
  have HR : Hid (Row w r L) := hR
  have HS : Hid (Sl w a ys) := hS
  have HM : Hid (ys.length = m) := hm
  have HL : Hid (L.length = l) := hl
  have HN : Hid (∀ ad, a = some ad → ys ≠ [] → ad.block ≠ g ∧ ad.block ≠ r) := hne
  clear hA hR hS hm hl hne
  go_enter Try.func12, Try.ntmps12
  go_wp2
  go_region_held3 (fun w' => w'.cell? ⟨w.heap.size, 1, none⟩ = some (.int .i64 A) ∧ w'.cell? ⟨w.heap.size, 2, none⟩ = some (.int .i64 N))
      (first
        | go_keep
        | exact ⟨hE2.cell (hE1.cell (by simp) (by simp <;> omega)) (by simp; omega), hE2.cell (hE1.cell (by simp) (by simp <;> omega)) (by simp; omega)⟩
        | exact ⟨hE1.cell (by simp) (by simp <;> omega), hE1.cell (by simp) (by simp <;> omega)⟩)
      (first
        | (go_at_call 20; refine (clear_all A N hi p g _ L (HA.out.keep ((Ext.alloc [] w _).trans (Ext.drew [] _)) (by simp) (by simp))).mono ?_; rintro e w1 ⟨rfl, hA1, hE1⟩)
        | (go_at_call 27; refine (rclear_all A N hi r l _ L (Row.keep (HR.out.keep ((Ext.alloc [] w _).trans (Ext.drew [] _)) (by simp)) hE1 (by simpa using Ne.symm hgr)) HL.out (by have := HL.out; omega)).mono ?_; rintro e w2 ⟨rfl, hR2, hE2⟩))
  go_wp2
  go_ret
  exact ⟨_, rfl, hA1.keep hE2 (by simp; rintro rfl; exact HA.out.box_ne HR.out rfl) (by simpa using hgr), hR2, (len_effC _ _ _).trans HL.out, (((Ext.alloc _ w _).trans (Ext.drew _ _)).trans (hE1.mono (by simp))).trans (hE2.mono (by simp))⟩

set_option maxRecDepth 100000 in
set_option maxHeartbeats 1000000 in
theorem step_move (p g r : Nat) (L : List Int) (l : Nat) (K A N F V : Int) (a : Option Addr) (m c : Nat) (ys : List Int) (w : World) (hA : Ar w p g L) (hR : Row w r L) (hl : L.length = l) (hgr : g ≠ r)
    (hi : I64 A) (hf : I64 F) (hv : 0 ≤ V ∧ V < 18446744073709551616) (hS : Sl w a ys) (hm : ys.length = m) (hm2 : m ≤ 140737488355328) (hne : ∀ ad, a = some ad → ys ≠ [] → ad.block ≠ g ∧ ad.block ≠ r) (hk : K = 4) :
    Calls Try.prog 12 #[.pointer (some ⟨p, 0, none⟩), .slice (some ⟨r, 0, none⟩) l l, .agg #[.int .i64 K, .int .i64 A, .int .i64 N, .int .i64 F, .int .u64 V, .slice a m c]] w (StepPost w p g r l) := by
  subst hk
  have hpl := lt_of_heap hA.box
  have hgl := hA.row.lt
  have hrl := hR.lt
  have hlen := hA.len
  have HA : Hid (Ar w p g L) := hA
  have HR : Hid (Row w r L) := hR
  have HS : Hid (Sl w a ys) := hS
  have HM : Hid (ys.length = m) := hm
  have HL : Hid (L.length = l) := hl
  have HN : Hid (∀ ad, a = some ad → ys ≠ [] → ad.block ≠ g ∧ ad.block ≠ r) := hne
  clear hA hR hS hm hl hne
  go_enter Try.func12, Try.ntmps12
  go_wp2
  go_region_held3 (fun w' => w'.cell? ⟨w.heap.size, 1, none⟩ = some (.int .i64 A) ∧ w'.cell? ⟨w.heap.size, 3, none⟩ = some (.int .i64 F) ∧ w'.cell? ⟨w.heap.size, 2, none⟩ = some (.int .i64 N))
      (first
        | go_keep
        | exact ⟨hE2.cell (hE1.cell (by simp) (by simp <;> omega)) (by simp; omega), hE2.cell (hE1.cell (by simp) (by simp <;> omega)) (by simp; omega), hE2.cell (hE1.cell (by simp) (by simp <;> omega)) (by simp; omega)⟩
        | exact ⟨hE1.cell (by simp) (by simp <;> omega), hE1.cell (by simp) (by simp <;> omega), hE1.cell (by simp) (by simp <;> omega)⟩)
      (first
        | (go_at_call 18; refine (move_all A F N hi hf p g _ L (HA.out.keep ((Ext.alloc [] w _).trans (Ext.drew [] _)) (by simp) (by simp))).mono ?_; rintro e w1 ⟨rfl, hA1, hE1⟩)
        | (go_at_call 26; refine (rmove_all A F N hi hf r l _ L (Row.keep (HR.out.keep ((Ext.alloc [] w _).trans (Ext.drew [] _)) (by simp)) hE1 (by simpa using Ne.symm hgr)) HA.out.ok HL.out (by have := HL.out; omega)).mono ?_; rintro e w2 ⟨rfl, hR2, hE2⟩))
  go_wp2
  go_ret
  exact ⟨_, rfl, hA1.keep hE2 (by simp; rintro rfl; exact HA.out.box_ne HR.out rfl) (by simpa using hgr), hR2, (len_effM _ _ _ _).trans HL.out, (((Ext.alloc _ w _).trans (Ext.drew _ _)).trans (hE1.mono (by simp))).trans (hE2.mono (by simp))⟩

set_option maxRecDepth 100000 in
set_option maxHeartbeats 1000000 in
theorem step_write (p g r : Nat) (L : List Int) (l : Nat) (K A N F V : Int) (a : Option Addr) (m c : Nat) (ys : List Int) (w : World) (hA : Ar w p g L) (hR : Row w r L) (hl : L.length = l) (hgr : g ≠ r)
    (hi : I64 A) (hf : I64 F) (hv : 0 ≤ V ∧ V < 18446744073709551616) (hS : Sl w a ys) (hm : ys.length = m) (hm2 : m ≤ 140737488355328) (hne : ∀ ad, a = some ad → ys ≠ [] → ad.block ≠ g ∧ ad.block ≠ r) (hk : K = 3) :
    Calls Try.prog 12 #[.pointer (some ⟨p, 0, none⟩), .slice (some ⟨r, 0, none⟩) l l, .agg #[.int .i64 K, .int .i64 A, .int .i64 N, .int .i64 F, .int .u64 V, .slice a m c]] w (StepPost w p g r l) := by
  subst hk
  have hpl := lt_of_heap hA.box
  have hgl := hA.row.lt
  have hrl := hR.lt
  have hlen := hA.len
  have HA : Hid (Ar w p g L) := hA
  have HR : Hid (Row w r L) := hR
  have HS : Hid (Sl w a ys) := hS
  have HM : Hid (ys.length = m) := hm
  have HL : Hid (L.length = l) := hl
  have HN : Hid (∀ ad, a = some ad → ys ≠ [] → ad.block ≠ g ∧ ad.block ≠ r) := hne
  clear hA hR hS hm hl hne
  go_enter Try.func12, Try.ntmps12
  go_wp2
  go_region_held3 (fun w' => w'.cell? ⟨w.heap.size, 1, none⟩ = some (.int .i64 A) ∧ w'.cell? ⟨w.heap.size, 5, none⟩ = some (.slice a m c))
      (first
        | go_keep
        | exact ⟨hE3.cell (hE2.cell (hE1.cell (by simp) (by simp <;> omega)) (by simp; omega)) (by simp; omega), hE3.cell (hE2.cell (hE1.cell (by simp) (by simp <;> omega)) (by simp; omega)) (by simp; omega)⟩
        | exact ⟨hE2.cell (hE1.cell (by simp) (by simp <;> omega)) (by simp; omega), hE2.cell (hE1.cell (by simp) (by simp <;> omega)) (by simp; omega)⟩
        | exact ⟨hE1.cell (by simp) (by simp <;> omega), hE1.cell (by simp) (by simp <;> omega)⟩)
      (first
        | (go_at_call 21; refine (own_any a m c ys _ (HS.out.keep ((Ext.alloc [] w _).trans (Ext.drew [] _)) (by simp)) HM.out (by omega)).mono ?_; rintro e w1 ⟨q, qc, rfl, hO1, hE1, hq1⟩)
        | (go_at_call 19; refine (write_all A hi (some ⟨q, 0, none⟩) m qc ys p g _ L (Ar.keep (HA.out.keep ((Ext.alloc [] w _).trans (Ext.drew [] _)) (by simp) (by simp)) hE1 (by simp) (by simp)) hO1.sl HM.out).mono ?_; rintro e w2 ⟨rfl, hA2, hE2⟩)
        | (go_at_call 25; refine (rwrite_all A hi a m c ys r l _ L (Row.keep (Row.keep (HR.out.keep ((Ext.alloc [] w _).trans (Ext.drew [] _)) (by simp)) hE1 (by simp)) hE2 (by simpa using Ne.symm hgr)) HL.out (by have := HL.out; omega) (Sl.keepIf (Sl.keep (HS.out.keep ((Ext.alloc [] w _).trans (Ext.drew [] _)) (by simp)) hE1 (by simp)) hE2 (fun ad had h0 => by simpa using (HN.out ad had h0).1)) HM.out (fun ad had h0 => (HN.out ad had h0).2)).mono ?_; rintro e w3 ⟨rfl, hR3, hE3⟩))
  go_wp2
  go_ret
  exact ⟨_, rfl, hA2.keep hE3 (by simp; rintro rfl; exact HA.out.box_ne HR.out rfl) (by simpa using hgr), hR3, (len_effW _ _ _).trans HL.out, ((((Ext.alloc _ w _).trans (Ext.drew _ _)).trans (hE1.mono (by simp))).trans (hE2.mono (by simp))).trans (hE3.mono (by simp))⟩

set_option maxRecDepth 100000 in
set_option maxHeartbeats 1000000 in
theorem step_load (p g r : Nat) (L : List Int) (l : Nat) (K A N F V : Int) (a : Option Addr) (m c : Nat) (ys : List Int) (w : World) (hA : Ar w p g L) (hR : Row w r L) (hl : L.length = l) (hgr : g ≠ r)
    (hi : I64 A) (hf : I64 F) (hv : 0 ≤ V ∧ V < 18446744073709551616) (hS : Sl w a ys) (hm : ys.length = m) (hm2 : m ≤ 140737488355328) (hne : ∀ ad, a = some ad → ys ≠ [] → ad.block ≠ g ∧ ad.block ≠ r) (hk : K = 1) :
    Calls Try.prog 12 #[.pointer (some ⟨p, 0, none⟩), .slice (some ⟨r, 0, none⟩) l l, .agg #[.int .i64 K, .int .i64 A, .int .i64 N, .int .i64 F, .int .u64 V, .slice a m c]] w (StepPost w p g r l) := by
  subst hk
  have hpl := lt_of_heap hA.box
  have hgl := hA.row.lt
  have hrl := hR.lt
  have hlen := hA.len
  have HA : Hid (Ar w p g L) := hA
  have HR : Hid (Row w r L) := hR
  have HS : Hid (Sl w a ys) := hS
  have HM : Hid (ys.length = m) := hm
  have HL : Hid (L.length = l) := hl
  have HN : Hid (∀ ad, a = some ad → ys ≠ [] → ad.block ≠ g ∧ ad.block ≠ r) := hne
  clear hA hR hS hm hl hne
  go_enter Try.func12, Try.ntmps12
  go_wp2_with (first
    | (go_at_call 17; refine met (load_all A N hi p g _ L (HA.out.keep (Ext.alloc [] w _) (by simp) (by simp))) ?_)
    | (go_at_call 23; refine met (rload_all A N hi r l _ L (HR.out.keep (Ext.alloc [] w _) (by simp)) HA.out.ok HL.out (by have := HL.out; omega)) ?_))
  go_ret
  exact ⟨L, rfl, HA.out.keep (Ext.alloc [] w _) (by simp) (by simp), HR.out.keep (Ext.alloc [] w _) (by simp), HL.out, Ext.alloc _ w _⟩

set_option maxRecDepth 100000 in
set_option maxHeartbeats 1000000 in
theorem step_bytes_err (p g r : Nat) (L : List Int) (l : Nat) (K A N F V : Int) (a : Option Addr) (m c : Nat) (ys : List Int) (w : World) (hA : Ar w p g L) (hR : Row w r L) (hl : L.length = l) (hgr : g ≠ r)
    (hi : I64 A) (hf : I64 F) (hv : 0 ≤ V ∧ V < 18446744073709551616) (hS : Sl w a ys) (hm : ys.length = m) (hm2 : m ≤ 140737488355328) (hne : ∀ ad, a = some ad → ys ≠ [] → ad.block ≠ g ∧ ad.block ≠ r) (hk : K = 2 ∧ perr l A N ≠ 0) :
    Calls Try.prog 12 #[.pointer (some ⟨p, 0, none⟩), .slice (some ⟨r, 0, none⟩) l l, .agg #[.int .i64 K, .int .i64 A, .int .i64 N, .int .i64 F, .int .u64 V, .slice a m c]] w (StepPost w p g r l) := by
  obtain ⟨rfl, he⟩ := hk
  obtain ⟨E, hE⟩ : ∃ E, perr l A N = E := ⟨_, rfl⟩
  have hE0 : E ≠ 0 := by omega
  have hE2 : perr L.length A N = E := by rw [hl]; exact hE
  have hpl := lt_of_heap hA.box
  have hgl := hA.row.lt
  have hrl := hR.lt
  have hlen := hA.len
  have HA : Hid (Ar w p g L) := hA
  have HR : Hid (Row w r L) := hR
  have HS : Hid (Sl w a ys) := hS
  have HM : Hid (ys.length = m) := hm
  have HL : Hid (L.length = l) := hl
  have HN : Hid (∀ ad, a = some ad → ys ≠ [] → ad.block ≠ g ∧ ad.block ≠ r) := hne
  clear hA hR hS hm hl hne
  have HE : Hid (perr l A N = E) := hE
  have HE2 : Hid (perr L.length A N = E) := hE2
  clear hE hE2 he
  go_enter Try.func12, Try.ntmps12
  have K1 := bytes_err A N p g _ L (HA.out.keep (Ext.alloc [] w (.cells #[.int .i64 2, .int .i64 A, .int .i64 N, .int .i64 F, .int .u64 V, .slice a m c] 33)) (by simp) (by simp)) hi E HE2.out hE0
  have K2 := fun W => rbytes_err (some ⟨r, 0, none⟩) l l A N W (by have := HL.out; omega) hi E HE.out hE0
  have K3 := fun W => same_true none none 0 0 0 [] W ⟨.inl rfl, by intro x hx; simp at hx⟩ ⟨.inl rfl, by intro x hx; simp at hx⟩ rfl (by unfold maxLen; omega)
  go_wp2_with (first
    | (go_at_call 13; refine met K1 ?_)
    | (go_at_call 24; refine met (K2 _) ?_)
    | (go_at_call 14; refine (K3 _).mono ?_; rintro e w3 ⟨rfl, hE3⟩))
  go_ret
  exact ⟨L, rfl, (HA.out.keep (Ext.alloc [] w _) (by simp) (by simp)).keep hE3 (by simp) (by simp), (HR.out.keep (Ext.alloc [] w _) (by simp)).keep hE3 (by simp), HL.out, (Ext.alloc _ w _).trans (hE3.mono (by simp))⟩

set_option maxRecDepth 100000 in
set_option maxHeartbeats 1000000 in
theorem step_bytes_ok (p g r : Nat) (L : List Int) (l : Nat) (K A N F V : Int) (a : Option Addr) (m c : Nat) (ys : List Int) (w : World) (hA : Ar w p g L) (hR : Row w r L) (hl : L.length = l) (hgr : g ≠ r)
    (hi : I64 A) (hf : I64 F) (hv : 0 ≤ V ∧ V < 18446744073709551616) (hS : Sl w a ys) (hm : ys.length = m) (hm2 : m ≤ 140737488355328) (hne : ∀ ad, a = some ad → ys ≠ [] → ad.block ≠ g ∧ ad.block ≠ r) (hk : K = 2 ∧ perr l A N = 0) :
    Calls Try.prog 12 #[.pointer (some ⟨p, 0, none⟩), .slice (some ⟨r, 0, none⟩) l l, .agg #[.int .i64 K, .int .i64 A, .int .i64 N, .int .i64 F, .int .u64 V, .slice a m c]] w (StepPost w p g r l) := by
  obtain ⟨rfl, he⟩ := hk
  obtain ⟨I, n, rfl, rfl, hb⟩ := perr_ok he
  have hpl := lt_of_heap hA.box
  have hgl := hA.row.lt
  have hrl := hR.lt
  have hlen := hA.len
  have HA : Hid (Ar w p g L) := hA
  have HR : Hid (Row w r L) := hR
  have HS : Hid (Sl w a ys) := hS
  have HM : Hid (ys.length = m) := hm
  have HL : Hid (L.length = l) := hl
  have HN : Hid (∀ ad, a = some ad → ys ≠ [] → ad.block ≠ g ∧ ad.block ≠ r) := hne
  clear hA hR hS hm hl hne
  clear he
  go_enter Try.func12, Try.ntmps12
  have K1 := bytes_ok I n p g _ L (HA.out.keep (Ext.alloc [] w (.cells #[.int .i64 2, .int .i64 I, .int .i64 n, .int .i64 F, .int .u64 V, .slice a m c] 33)) (by simp) (by simp)) (by rw [HL.out]; exact hb)
  have hc1 : ∀ W' : World, Ext [] (w.alloc (.cells #[.int .i64 2, .int .i64 I, .int .i64 n, .int .i64 F, .int .u64 V, .slice a m c] 33)) W' → W'.cell? ⟨w.heap.size, 1, none⟩ = some (.int .i64 I) := fun W' h => h.cell (by simp) (by simp)
  have hc2 : ∀ W' : World, Ext [] (w.alloc (.cells #[.int .i64 2, .int .i64 I, .int .i64 n, .int .i64 F, .int .u64 V, .slice a m c] 33)) W' → W'.cell? ⟨w.heap.size, 2, none⟩ = some (.int .i64 n) := fun W' h => h.cell (by simp) (by simp)
  have H1 : Hid (∀ W' : World, Ext [] (w.alloc (.cells #[.int .i64 2, .int .i64 I, .int .i64 n, .int .i64 F, .int .u64 V, .slice a m c] 33)) W' → W'.cell? ⟨w.heap.size, 1, none⟩ = some (.int .i64 I)) := hc1
  have H2 : Hid (∀ W' : World, Ext [] (w.alloc (.cells #[.int .i64 2, .int .i64 I, .int .i64 n, .int .i64 F, .int .u64 V, .slice a m c] 33)) W' → W'.cell? ⟨w.heap.size, 2, none⟩ = some (.int .i64 n)) := hc2
  clear hc1 hc2
  go_wp2_with fail
  refine K1.mono ?_
  clear K1
  rintro e w1 ⟨rfl, hR1, hE1⟩
  rw [World.size_alloc] at hR1
  have d1 := H1.out w1 hE1
  have d2 := H2.out w1 hE1
  have hA1 := (HA.out.keep (Ext.alloc [] w _) (by simp) (by simp)).keep hE1 (by simp) (by simp)
  have hRr := (HR.out.keep (Ext.alloc [] w _) (by simp)).keep hE1 (by simp)
  have HE1 : Hid (Ext [] w w1) := (Ext.alloc [] w _).trans hE1
  have K2 := rbytes_ok r L l I n w1 hRr HA.out.ok HL.out (by have := HL.out; omega) hb
  clear H1 H2 hE1
  go_wp2_with fail
  refine K2.mono ?_
  clear K2
  rintro e w2 ⟨q, qc, rfl, hO2, hE2, hq2⟩
  have K3 := same_true (some ⟨w.heap.size + 1, 0, none⟩) (some ⟨q, 0, none⟩) n n qc (cut L I n) w2 ((hR1.sl (bts_cut HA.out.ok I n)).keep hE2 (by simp)) hO2.sl (length_cut _ _ _) (by have := HL.out; unfold maxLen; omega)
  go_wp2_with fail
  refine K3.mono ?_
  rintro e w3 ⟨rfl, hE3⟩
  go_wp2
  go_ret
  exact ⟨L, rfl, (hA1.keep hE2 (by simp) (by simp)).keep hE3 (by simp) (by simp), (hRr.keep hE2 (by simp)).keep hE3 (by simp), HL.out, ((HE1.out.mono (by simp)).trans (hE2.mono (by simp))).trans (hE3.mono (by simp))⟩

theorem step_any (p g r : Nat) (L : List Int) (l : Nat) (K A N F V : Int) (a : Option Addr) (m c : Nat) (ys : List Int) (w : World) (hA : Ar w p g L) (hR : Row w r L) (hl : L.length = l) (hgr : g ≠ r)
    (hi : I64 A) (hf : I64 F) (hv : 0 ≤ V ∧ V < 18446744073709551616) (hS : Sl w a ys) (hm : ys.length = m) (hm2 : m ≤ 140737488355328) (hne : ∀ ad, a = some ad → ys ≠ [] → ad.block ≠ g ∧ ad.block ≠ r) :
    Calls Try.prog 12 #[.pointer (some ⟨p, 0, none⟩), .slice (some ⟨r, 0, none⟩) l l, .agg #[.int .i64 K, .int .i64 A, .int .i64 N, .int .i64 F, .int .u64 V, .slice a m c]] w (StepPost w p g r l) := by
  by_cases h1 : K = 1
  · exact step_load p g r L l K A N F V a m c ys w hA hR hl hgr hi hf hv hS hm hm2 hne h1
  · by_cases h2 : K = 2
    · by_cases he : perr l A N = 0
      · exact step_bytes_ok p g r L l K A N F V a m c ys w hA hR hl hgr hi hf hv hS hm hm2 hne ⟨h2, he⟩
      · exact step_bytes_err p g r L l K A N F V a m c ys w hA hR hl hgr hi hf hv hS hm hm2 hne ⟨h2, he⟩
    · by_cases h3 : K = 3
      · exact step_write p g r L l K A N F V a m c ys w hA hR hl hgr hi hf hv hS hm hm2 hne h3
      · by_cases h4 : K = 4
        · exact step_move p g r L l K A N F V a m c ys w hA hR hl hgr hi hf hv hS hm hm2 hne h4
        · by_cases h5 : K = 5
          · exact step_clear p g r L l K A N F V a m c ys w hA hR hl hgr hi hf hv hS hm hm2 hne h5
          · exact step_store p g r L l K A N F V a m c ys w hA hR hl hgr hi hf hv hS hm hm2 hne ⟨h1, h2, h3, h4, h5⟩

end Go.Proofs.Ytnnagkinkckoeaa
