/-
  within, Base, object, Info: what is known of an address; no statement is proved here.
-/
import Derived.Test.YtlajjcboahflbaaDoorHOps
namespace Go.Proofs.YtlajjcboahflbaaDoor
open Go.RowKit

def slotAt (H : Hs) (k j : Nat) : Slot := (spAt H k).S.getD j (0, 0)
/-- Where the object in a slot begins. -/
def adrAt (H : Hs) (k j : Nat) : Nat := adr (spAt H k) j

/-- What is known of a slot that holds an object. -/
structure Slt (H : Hs) (k j : Nat) : Prop where
  kl : k < H.sp.length
  jl : j < (spAt H k).S.length
  ok : (spAt H k).Ok
  mem : spAt H k ∈ H.sp
  st : (spAt H k).st + (spAt H k).n ≤ H.P
  P1 : H.P ≤ 1024
  j1 : j ≤ 65536
  lo : 256 ≤ adrAt H k j
  hi : adrAt H k j + (spAt H k).rm ≤ (H.P + 1) * 256
  sz : 0 ≤ (slotAt H k j).1 ∧ (slotAt H k j).1 ≤ (spAt H k).rm
  tg : 0 ≤ (slotAt H k j).2 ∧ (slotAt H k j).2 ≤ 2147483647
  ad : (adrAt H k j : Int) = (((spAt H k).st : Int) + 1) * 256 + j * (spAt H k).rm
theorem Hv.slt {H : Hs} (h : Hv H) {k j : Nat} (hk : k < H.sp.length) (hj : j < (spAt H k).S.length) : Slt H k j := by
  have hm := spAt_mem hk
  have ho := h.ok _ hm
  have hle := h.le hm
  have hP := h.P1
  have hl := ho.len2 (by omega)
  have hs := ho.slot hj
  rw [Nat.add_mul, Nat.one_mul] at hs
  have hy : (spAt H k).S.getD j (0, 0) ∈ (spAt H k).S := by
    rw [List.getD_eq_getElem?_getD, List.getElem?_eq_getElem hj]; exact List.getElem_mem hj
  refine ⟨hk, hj, ho, hm, hle, hP, by omega, ?_, ?_, ho.sz _ hy, ho.tg _ hy, ?_⟩
  · unfold adrAt adr; omega
  · unfold adrAt adr; omega
  · unfold adrAt adr; simp
/-- .. at an address that is one of its bytes. -/
theorem Hv.hit {H : Hs} (h : Hv H) {k j : Nat} {a : Int} (hf : fnd H a = some (k, j)) : Slt H k j ∧ (adrAt H k j : Int) ≤ a ∧ a < adrAt H k j + (slotAt H k j).1 := by
  obtain ⟨x, y, hx, hy, h1, h2⟩ := h.fnd_iff.1 hf
  have e := spAt_eq hx
  have hk := (List.getElem?_eq_some_iff.1 hx).1
  have hj := (List.getElem?_eq_some_iff.1 hy).1
  have e2 : slotAt H k j = y := by unfold slotAt; rw [e]; simp [List.getD, hy]
  refine ⟨h.slt hk (by rw [e]; exact hj), ?_, ?_⟩
  · unfold adrAt; rw [e]; exact h1
  · rw [e2]; unfold adrAt; rw [e]; exact h2
theorem Hv.hit_of {H : Hs} (h : Hv H) {k j : Nat} {a : Int} (hk : k < H.sp.length) (hj : j < (spAt H k).S.length) (h1 : (adrAt H k j : Int) ≤ a) (h2 : a < adrAt H k j + (slotAt H k j).1) : fnd H a = some (k, j) := by
  rw [h.fnd_iff]
  exact ⟨spAt H k, slotAt H k j, spAt_get hk, by unfold slotAt; simp [hj], h1, h2⟩

def witE (H : Hs) (a n : Int) : Int := if n < 0 then 2 else match fnd H a with
  | none => 5
  | some (k, j) => if (adrAt H k j : Int) + (slotAt H k j).1 - a < n then 5 else 0
theorem witE_vals (H : Hs) (a n : Int) : witE H a n = 0 ∨ witE H a n = 2 ∨ witE H a n = 5 := by
  unfold witE; split; simp; split; simp; split <;> simp
theorem witE_ok {H : Hs} {a n : Int} (h : witE H a n = 0) : 0 ≤ n ∧ ∃ k j, fnd H a = some (k, j) ∧ a + n ≤ adrAt H k j + (slotAt H k j).1 := by
  unfold witE at h
  split at h
  · simp at h
  · split at h
    · simp at h
    · rename_i k j hf
      split at h
      · simp at h
      · exact ⟨by omega, k, j, hf, by omega⟩

section
variable {p ox : Nat} {T : TypeId} {cs : Array Value} {F : Nat → Prop} {H : Hs} {ag og : Nat} {V : Value} {sb : Nat → Nat × Nat} {O : List (Option Nat)}

theorem Hm.addr_dr {w : World} (hH : Hm w p ox T cs F H ag og V sb O) {k j : Nat} (hs : Slt H k j) (W : World) (hW : Ext [] w W) : ∀ n, Calls Tryd.prog 33 #[.pointer (some ⟨(sb (spAt H k).st).1, 0, none⟩), .int .i64 j] (W.drewN n) (Qt (W.drewN n) (.int .i64 (adrAt H k j))) := fun n => by
  have := Go.Proofs.YtlajjcboahflbaaDoor.addr_dr _ _ _ _ _ _ j _ (W.drewN n) ((hH.spans _ hs.mem).keep (hW.trans (Ext.drewN [] W n)) (by simp) (by simp)) (by have := hs.st; have := hs.P1; omega) (by have := hs.ok.rm2; omega) (by have := hs.j1; omega)
  rw [← hs.ad] at this
  exact this

set_option maxRecDepth 100000 in
set_option maxHeartbeats 4000000 in
theorem within_any (a n : Int) (w : World) (hH : Hm w p ox T cs F H ag og V sb O) :
    Calls Tryd.prog 35 #[.pointer (some ⟨p, ox, none⟩), .int .i64 a, .int .i64 n] w (Qt w (.int .i64 (witE H a n))) := by
  unfold witE
  by_cases hn : n < 0
  · rw [if_pos hn]
    clear hH
    go_enter Tryd.func35, Tryd.ntmps35
    go_wp2
    go_ret
    exact ⟨rfl, 0, rfl⟩
  · rw [if_neg hn]
    have K := find_any a w hH
    cases hf : fnd H a with
    | none =>
      simp only
      rw [hf] at K
      simp only [fdV] at K
      clear hH hf
      go_enter Tryd.func35, Tryd.ntmps35
      go_wp2_with (first | (go_at_call 32; refine K.mono ?_; clear K; rintro e w1 ⟨rfl, m, rfl⟩) | fail "no arm")
      go_quiet (fail)
      go_wp2_with fail
      go_ret
      exact ⟨rfl, _, by rw [World.drewN_drewN]⟩
    | some q =>
      obtain ⟨k, j⟩ := q
      simp only
      obtain ⟨hs, h1, h2⟩ := hH.ok.hit hf
      rw [hf] at K
      simp only [fdV] at K
      have KA := hH.addr_dr hs
      have hxs := hH.spans _ hs.mem
      have c4 := hxs.c4
      have cz := (hxs.at_ hs.jl).1
      have hj3 : (j : Int) < ((spAt H k).S.length : Nat) := by have := hs.jl; omega
      have hb := hs.hi
      have hb2 := hs.P1
      have hb3 := hs.sz
      have hrm2 := hs.ok.rm2
      have hlo := hs.lo
      have e1 : IntKind.i64.wrap ((adrAt H k j : Int) + (slotAt H k j).1) = (adrAt H k j : Int) + (slotAt H k j).1 := by rw [IntKind.wrap_i64]; omega
      have e2 : IntKind.i64.wrap ((adrAt H k j : Int) + (slotAt H k j).1 - a) = (adrAt H k j : Int) + (slotAt H k j).1 - a := by rw [IntKind.wrap_i64]; omega
      unfold slotAt at e1 e2 ⊢
      clear hb hb2 hb3 hrm2 hlo h1 h2 hH hf hxs hs
      generalize ((spAt H k).S.getD j (0, 0)).1 = zz at *
      generalize (spAt H k).S.length = sl at *
      generalize (sb (spAt H k).st).1 = s at *
      generalize (sb (spAt H k).st).2 = g at *
      generalize adrAt H k j = ad at *
      by_cases hc : (ad : Int) + zz - a < n
      · rw [if_pos hc]
        go_enter Tryd.func35, Tryd.ntmps35
        go_wp2_with (first | (go_at_call 32; refine K.mono ?_; clear K; rintro e w1 ⟨rfl, hm⟩; replace hm := hid hm) | fail "no arm")
        obtain ⟨m, hw1⟩ := hm.out
        have d4 : w1.cell? ⟨s, 4, none⟩ = some (.slice (some ⟨g, 0, none⟩) sl sl) := by rw [hw1]; exact c4
        have d5 : w1.cell? ⟨g, j * 2, none⟩ = some (.int .i64 zz) := by rw [hw1]; exact cz
        have KA1 := KA w1 (by rw [hw1]; exact Ext.drewN _ _ _)
        have HW := hid hw1
        clear KA c4 cz hw1 hm
        go_quiet ((go_at_call 33; exact Calls.quiet_of (KA1 _)))
        go_wp2_with fail
        go_ret
        exact ⟨rfl, _, by rw [HW.out, World.drewN_drewN]⟩
      · rw [if_neg hc]
        go_enter Tryd.func35, Tryd.ntmps35
        go_wp2_with (first | (go_at_call 32; refine K.mono ?_; clear K; rintro e w1 ⟨rfl, hm⟩; replace hm := hid hm) | fail "no arm")
        obtain ⟨m, hw1⟩ := hm.out
        have d4 : w1.cell? ⟨s, 4, none⟩ = some (.slice (some ⟨g, 0, none⟩) sl sl) := by rw [hw1]; exact c4
        have d5 : w1.cell? ⟨g, j * 2, none⟩ = some (.int .i64 zz) := by rw [hw1]; exact cz
        have KA1 := KA w1 (by rw [hw1]; exact Ext.drewN _ _ _)
        have HW := hid hw1
        clear KA c4 cz hw1 hm
        go_quiet ((go_at_call 33; exact Calls.quiet_of (KA1 _)))
        go_wp2_with fail
        go_ret
        exact ⟨rfl, _, by rw [HW.out, World.drewN_drewN]⟩

/-- Base's answer. -/
def baV (H : Hs) : Option (Nat × Nat) → Value
  | some (k, j) => .tuple #[.int .i64 (adrAt H k j), .int .i64 0]
  | none => .tuple #[.int .i64 0, .int .i64 4]
theorem base_any (a : Int) (w : World) (hH : Hm w p ox T cs F H ag og V sb O) :
    Calls Tryd.prog 18 #[.pointer (some ⟨p, ox, none⟩), .int .i64 a] w (Qt w (baV H (fnd H a))) := by
  have K := find_any a w hH
  cases hf : fnd H a with
  | none =>
    rw [hf] at K
    simp only [fdV] at K
    simp only [baV]
    clear hH hf
    go_enter Tryd.func18, Tryd.ntmps18
    go_wp2_with (first | (go_at_call 32; refine K.mono ?_; clear K; rintro e w1 ⟨rfl, m, rfl⟩) | fail "no arm")
    go_ret2
    exact ⟨rfl, _, rfl⟩
  | some q =>
    obtain ⟨k, j⟩ := q
    obtain ⟨hs, h1, h2⟩ := hH.ok.hit hf
    rw [hf] at K
    simp only [fdV] at K
    simp only [baV]
    have KA := hH.addr_dr hs
    clear h1 h2 hH hf hs
    generalize (sb (spAt H k).st).1 = s at *
    generalize adrAt H k j = ad at *
    go_enter Tryd.func18, Tryd.ntmps18
    go_wp2_with (first | (go_at_call 32; refine K.mono ?_; clear K; rintro e w1 ⟨rfl, m, rfl⟩) | (go_at_call 33; refine (KA _ (Ext.drewN _ _ _) 0).mono ?_; clear KA; rintro e w2 ⟨rfl, m2, rfl⟩) | fail "no arm")
    go_ret2
    exact ⟨rfl, _, rfl⟩

end

end Go.Proofs.YtlajjcboahflbaaDoor
