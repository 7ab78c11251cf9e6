/-
  The program's reader; no statement is proved here.
-/
import Derived.Test.YtfjbhpjgidgjaaaDoorNums
import Derived.Test.YtfjbhpjgidgjaaaDoorCopy
namespace Go.Proofs.YtfjbhpjgidgjaaaDoor
open Go.RowKit

/-! ### the reader -/

/-- A reader in memory. -/
def Rdr (w : World) (p : Nat) (a : Option Addr) (n c at_ : Nat) (f : Bool) : Prop := w.heap[p]? = some (.cells #[.slice a n c, .int .i64 (at_ : Int), .bool f] 92 (0, 0))

theorem Rdr.cells {w : World} {p : Nat} {a : Option Addr} {n c at_ : Nat} {f : Bool} (h : Rdr w p a n c at_ f) : w.cell? ⟨p, 0, none⟩ = some (.slice a n c) ∧ w.cell? ⟨p, 1, none⟩ = some (.int .i64 (at_ : Int)) ∧ w.cell? ⟨p, 2, none⟩ = some (.bool f) ∧ ∀ i, w.frozen? ⟨p, i, none⟩ = false :=
  ⟨by rw [cell_of_row _ _ _ _ _ _ h]; rfl, by rw [cell_of_row _ _ _ _ _ _ h]; rfl, by rw [cell_of_row _ _ _ _ _ _ h]; rfl, fun i => frozen_of_row _ _ i _ _ h⟩
theorem Rdr.put {w : World} {p : Nat} {a : Option Addr} {n c at_ : Nat} {f : Bool} (h : Rdr w p a n c at_ f) (b : Nat) (g : Bool) : Rdr ((w.setCell ⟨p, 1, none⟩ (.int .i64 (b : Int))).setCell ⟨p, 2, none⟩ (.bool g)) p a n c b g := by
  have h1 : (w.setCell ⟨p, 1, none⟩ (.int .i64 (b : Int))).heap[p]? = some (.cells #[.slice a n c, .int .i64 (b : Int), .bool f] 92 (0, 0)) := by
    rw [heap_setCell_same w p 1 _ _ _ h]; rfl
  unfold Rdr
  rw [heap_setCell_same _ p 2 _ _ _ h1]; rfl
theorem Rdr.keep {S : List Nat} {w w' : World} {p : Nat} {a : Option Addr} {n c at_ : Nat} {f : Bool} (h : Rdr w p a n c at_ f) (e : Ext S w w') (hs : p ∉ S) : Rdr w' p a n c at_ f := Ext.keep e h hs

/-- What the next number is, where the reader stands then, and whether it is at fault. -/
def numR (L : List Int) (a : Nat) (f : Bool) : Int × Nat × Bool := if f then (0, a, true) else match rdN L a with | none => (0, a, true) | some (v, b) => (v, b, false)

structure NumPost (w : World) (p : Nat) (a : Option Addr) (n c : Nat) (r : Int × Nat × Bool) (e : Ending) (w' : World) : Prop where
  e : e = .returned (.int .i64 r.1)
  r : Rdr w' p a n c r.2.1 r.2.2
  x : Ext [p] w w'

/-- Bytes that may be read. -/
structure Src (w : World) (p : Nat) (a : Option Addr) (n c : Nat) (L : List Int) : Prop where
  hb : Bs w a L
  hn : L.length = n
  hl : n ≤ 65536
  hv : ∀ x ∈ L, 0 ≤ x ∧ x < 256
  hc : n ≤ c
  hp : L ≠ [] → ∀ ad, a = some ad → ad.block ≠ p

theorem Bs.lt {w : World} {a : Option Addr} {L : List Int} (h : Bs w a L) (h0 : L ≠ []) : ∀ ad, a = some ad → ad.block < w.heap.size := fun ad had => by
  obtain ⟨b, o, h1, h2⟩ := h.at_ h0
  rw [h1] at had
  cases had
  exact block_lt_of_cell (h2 0 (List.length_pos_iff.2 h0))
theorem Src.keep {w w' : World} {p : Nat} {a : Option Addr} {n c : Nat} {L : List Int} (h : Src w p a n c L) {S : List Nat} (e : Ext S w w') (hs : L ≠ [] → ∀ ad, a = some ad → ad.block ∉ S) : Src w' p a n c L := by
  refine ⟨?_, h.hn, h.hl, h.hv, h.hc, h.hp⟩
  by_cases h0 : L = []
  · exact .inl (by rw [h0]; rfl)
  · exact Vs.keep h.hb e (hs h0)
theorem Src.keep1 {w w' : World} {p : Nat} {a : Option Addr} {n c : Nat} {L : List Int} (h : Src w p a n c L) (e : Ext [p] w w') : Src w' p a n c L :=
  h.keep e (fun h0 ad ha => by simpa using h.hp h0 ad ha)

set_option maxHeartbeats 1000000 in
theorem number_any (p : Nat) (a : Option Addr) (L : List Int) (n c at_ : Nat) (f : Bool) (w : World) (hR : Rdr w p a n c at_ f) (hS : Src w p a n c L) (ha : at_ ≤ n) :
    Calls Tryd.prog 57 #[.pointer (some ⟨p, 0, none⟩)] w (NumPost w p a n c (numR L at_ f)) := by
  have HR := hid hR
  obtain ⟨c0, c1, c2, hf⟩ := hR.cells
  have K := fun q => read_any a L n c at_ (w.drewN q) (hS.hb.keep0 (Ext.drewN [] w q)) hS.hn hS.hl hS.hv ha hS.hc
  have HS := hid hS
  clear hR hS
  cases f
  · cases hr : rdN L at_ with
    | none =>
      have HN : Hid (numR L at_ false = (0, at_, true)) := by show _ = _; unfold numR; simp [hr]
      have HV : Hid (rdVal L at_ = .tuple #[.int .u64 0, .int .i64 at_, .bool false]) := by show _ = _; unfold rdVal; rw [hr]
      simp only [HV.out] at K
      clear hr HV
      go_enter Tryd.func57, Tryd.ntmps57
      go_wp2_with fail
      go_quiet (first | (go_at_call 71; refine Calls.quiet_of_same (K _)))
      go_wp2_with fail
      go_ret
      rw [HN.out]
      exact ⟨rfl, (HR.out.keep (Ext.drewN [] w _) (by simp)).put at_ true, ((Ext.drewN [p] w _).trans (Ext.setCell [p] _ _ _ (by simp))).trans (Ext.setCell _ _ _ _ (by simp))⟩
    | some r =>
      obtain ⟨v, b⟩ := r
      have HN : Hid (numR L at_ false = (v, b, false)) := by show _ = _; unfold numR; simp [hr]
      have HV : Hid (rdVal L at_ = .tuple #[.int .u64 v, .int .i64 b, .bool true]) := by show _ = _; unfold rdVal; rw [hr]
      simp only [HV.out] at K
      obtain ⟨_, _, v0, v1⟩ := rdN_bd hr
      have v2 : v ≤ 2147483647 := v1
      clear hr HV v1
      go_enter Tryd.func57, Tryd.ntmps57
      go_wp2_with fail
      go_quiet (first | (go_at_call 71; refine Calls.quiet_of_same (K _)))
      go_wp2_with fail
      go_ret
      rw [HN.out]
      exact ⟨rfl, (HR.out.keep (Ext.drewN [] w _) (by simp)).put b false, ((Ext.drewN [p] w _).trans (Ext.setCell [p] _ _ _ (by simp))).trans (Ext.setCell _ _ _ _ (by simp))⟩
  · clear K
    go_enter Tryd.func57, Tryd.ntmps57
    go_wp2_with fail
    go_ret
    exact ⟨rfl, HR.out, Ext.refl _ _⟩

/-- The next kind. -/
def kindR (L : List Int) (a : Nat) (f : Bool) : Int × Nat × Bool := if f then (0, a, true) else match rdKind L a with | .bad _ => (0, a, true) | .good v b => (v, b, false)

set_option maxHeartbeats 1000000 in
theorem kind_any (p : Nat) (a : Option Addr) (L : List Int) (n c at_ : Nat) (f : Bool) (w : World) (hR : Rdr w p a n c at_ f) (hS : Src w p a n c L) (ha : at_ ≤ n) :
    Calls Tryd.prog 58 #[.pointer (some ⟨p, 0, none⟩)] w (NumPost w p a n c (kindR L at_ f)) := by
  have HR := hid hR
  obtain ⟨c0, c1, c2, hf⟩ := hR.cells
  have K := number_any p a L n c at_ f w hR hS ha
  have HS := hid hS
  clear hR hS
  go_enter Tryd.func58, Tryd.ntmps58
  go_wp2_with fail
  refine K.mono ?_
  clear K
  rintro e w1 ⟨rfl, hR1, hE1⟩
  have HR1 := hid hR1
  have HE1 := hid hE1
  obtain ⟨d0, d1, d2, df⟩ := hR1.cells
  clear hR1 hE1 c0 c1 c2 hf
  cases f
  · cases hr : rdN L at_ with
    | none =>
      have HN : Hid (numR L at_ false = (0, at_, true)) := by show _ = _; unfold numR; simp [hr]
      have HK : Hid (kindR L at_ false = (0, at_, true)) := by show _ = _; unfold kindR rdKind; simp [hr]
      rw [HN.out] at d1 d2 HR1 ⊢
      simp only at d1 d2
      clear hr HN
      go_wp2_with fail
      go_ret
      rw [HK.out]
      exact ⟨rfl, HR1.out, HE1.out⟩
    | some r =>
      obtain ⟨v, b⟩ := r
      have HN : Hid (numR L at_ false = (v, b, false)) := by show _ = _; unfold numR; simp [hr]
      rw [HN.out] at d1 d2 HR1 ⊢
      simp only at d1 d2
      by_cases hk : 1 ≤ v ∧ v ≤ 10
      · have HK : Hid (kindR L at_ false = (v, b, false)) := by show _ = _; unfold kindR rdKind; simp [hr, hk]
        have K := isKind_yes v w1 hk
        clear hr HN hk
        go_wp2_with (go_at_call 66; refine met K ?_)
        go_ret
        rw [HK.out]
        exact ⟨rfl, HR1.out, HE1.out⟩
      · have HK : Hid (kindR L at_ false = (0, at_, true)) := by show _ = _; unfold kindR rdKind; simp [hr, hk]
        have K := isKind_no v w1 hk
        clear hr HN hk
        go_wp2_with (go_at_call 66; refine met K ?_)
        go_ret
        rw [HK.out]
        exact ⟨rfl, HR1.out.put at_ true, (HE1.out.trans (Ext.setCell [p] _ _ _ (by simp))).trans (Ext.setCell _ _ _ _ (by simp))⟩
  · have HN : Hid (numR L at_ true = (0, at_, true)) := by show _ = _; unfold numR; simp
    have HK : Hid (kindR L at_ true = (0, at_, true)) := by show _ = _; unfold kindR; simp
    rw [HN.out] at d1 d2 HR1 ⊢
    simp only at d1 d2
    clear HN
    go_wp2_with fail
    go_ret
    rw [HK.out]
    exact ⟨rfl, HR1.out, HE1.out⟩

end Go.Proofs.YtfjbhpjgidgjaaaDoor
