/-
  DSam: joined by program; no statement is proved here.
-/
import Derived.Test.YtkfagfdefkaenaaDoorZO
import Derived.Test.YtkfagfdefkaenaaDoorZH
/-
  Two directories that are the same; no statement is proved here.
-/
namespace Go.Proofs.YtkfagfdefkaenaaDoor
open Go.RowKit Go.Shelf
open Pr (Gp GpI sq pl)
attribute [local go_sem] Oper.semAt_some run_store_func

set_option maxRecDepth 10000 in
theorem sameInts_true (b1 o1 b2 o2 n c d : Nat) (S : List Nat) (w : World) (ha : Ns w b1 o1 S) (hb : Ns w b2 o2 S) (hn : S.length = n) (hm : n ≤ 1000000) : Calls Tryd.prog 33 #[.slice (some ⟨b1, o1, none⟩) n c, .slice (some ⟨b2, o2, none⟩) n d] w (SayPost w (.bool true)) := by
  have HA := hid ha
  have HB := hid hb
  have HN := hid hn
  clear ha hb hn
  go_enter Tryd.func33, Tryd.ntmps33
  go_wp2_with fail
  go_loopw [5] (fun q wr => ∃ k : Nat, q = .int .i64 k ∧ k ≤ n ∧ Ext [] w wr) (fun q _ => (n - (intOf q)).toNat)
  case atStart => exact ⟨0, rfl, Nat.zero_le _, Ext.refl _ _⟩
  case round =>
    obtain ⟨k, rfl, hk, hX⟩ := hrel
    have HX := hid hX
    by_cases hkn : k < n
    · have hki : (k : Int) < n := by omega
      obtain ⟨x, hx⟩ : ∃ x, S[k]? = some x := ⟨_, List.getElem?_eq_getElem (by rw [HN.out]; exact hkn)⟩
      have ck1 := hX.cell (HA.out k x hx) (by simp)
      have ck2 := hX.cell (HB.out k x hx) (by simp)
      clear hX hx
      go_wp2_with (go_quiet (fail))
      go_roundw
      case rel => exact ⟨k + 1, by go_num, by omega, HX.out.trans (Ext.drewN [] _ _)⟩
      case measure => simp [intOf]; omega
    · obtain rfl : k = n := by omega
      clear hX
      go_wp2
      go_ret
      exact ⟨rfl, HX.out⟩
set_option maxRecDepth 100000 in
set_option maxHeartbeats 4000000 in
theorem sameDir_true (dp bt ct bs os cs n bt' ct' bs' os' cs' : Nat) (L : List Tq) (hD : Dq dp L) (hn : L.length = n) (w : World) (hR : Dr w bt bs os dp L) (hR' : Dr w bt' bs' os' dp L) :
    Calls Tryd.prog 11 #[dv dp bt n ct bs os (2 ^ dp) cs, dv dp bt' n ct' bs' os' (2 ^ dp) cs'] w (SayPost w (.bool true)) := by
  have hl64 := hD.len
  rw [hn] at hl64
  have hm64 := pow64 hD.le
  have hsl : (slo dp L 0).length = 2 ^ dp := by rw [slo_len, hD.all]
  obtain ⟨m, hm⟩ : ∃ m, 2 ^ dp = m := ⟨_, rfl⟩
  unfold dv
  rw [hm] at hsl hm64 ⊢
  obtain ⟨z, hz⟩ : ∃ z, w.heap.size = z := ⟨_, rfl⟩
  obtain ⟨W0, hW0⟩ : ∃ W0, (w.alloc (.cells #[.int .i64 (dp : Nat), .slice (some ⟨bt, 0, none⟩) n ct, .slice (some ⟨bs, os, none⟩) m cs] 27)).alloc (.cells #[.int .i64 (dp : Nat), .slice (some ⟨bt', 0, none⟩) n ct', .slice (some ⟨bs', os', none⟩) m cs'] 27) = W0 := ⟨_, rfl⟩
  have hE0 : Ext [] w W0 := by rw [← hW0]; exact (Ext.alloc [] _ _).trans (Ext.alloc [] _ _)
  have b0 : W0.heap[z]? = some (.cells #[.int .i64 (dp : Nat), .slice (some ⟨bt, 0, none⟩) n ct, .slice (some ⟨bs, os, none⟩) m cs] 27) := by
    rw [← hW0, ← hz]; exact (Below.heap_alloc _ _ _ (by simp)).trans (heap_alloc_new w _)
  have b1 : W0.heap[z + 1]? = some (.cells #[.int .i64 (dp : Nat), .slice (some ⟨bt', 0, none⟩) n ct', .slice (some ⟨bs', os', none⟩) m cs'] 27) := by
    have := heap_alloc_new (w.alloc (.cells #[.int .i64 (dp : Nat), .slice (some ⟨bt, 0, none⟩) n ct, .slice (some ⟨bs, os, none⟩) m cs] 27)) (.cells #[.int .i64 (dp : Nat), .slice (some ⟨bt', 0, none⟩) n ct', .slice (some ⟨bs', os', none⟩) m cs'] 27)
    rw [hW0, World.size_alloc, hz] at this; exact this
  obtain ⟨a0, a1, a2⟩ := cells3 b0
  obtain ⟨d0, d1, d2⟩ := cells3 b1
  have K := sameInts_true bs os bs' os' m cs cs' (slo dp L 0) W0 (hR.keep0 hE0).ns (hR'.keep0 hE0).ns hsl (by omega)
  have HD := hid hD
  have HN := hid hn
  have HR := hid (hR.keep0 hE0)
  have HR' := hid (hR'.keep0 hE0)
  have HE0 := hid hE0
  have B0 := hid b0
  have B1 := hid b1
  clear hD hn hR hR' hE0 b0 b1 hsl hm
  go_enter Tryd.func11, Tryd.ntmps11
  go_wp2_with fail
  try rw [hW0]
  try simp only [hz]
  clear hW0
  refine K.mono ?_
  clear K a0 a1 a2 d0 d1 d2
  rintro _ w1 ⟨rfl, hE1⟩
  obtain ⟨a0, a1, a2⟩ := cells3 (hE1.keep B0.out (by simp))
  obtain ⟨d0, d1, d2⟩ := cells3 (hE1.keep B1.out (by simp))
  have HE1 := hid hE1
  clear hE1
  go_wp2_with fail
  go_loopw [5] (fun q wr => ∃ k : Nat, q = .int .i64 k ∧ k ≤ n ∧ Ext [] w1 wr) (fun q _ => (n - (intOf q)).toNat)
  case atStart => exact ⟨0, rfl, Nat.zero_le _, Ext.refl _ _⟩
  case round =>
    obtain ⟨k, rfl, hk, hX⟩ := hrel
    have hXX := HE1.out.trans hX
    obtain ⟨p0, p1, p2⟩ := cells3 (hXX.keep B0.out (by simp))
    obtain ⟨q0, q1, q2⟩ := cells3 (hXX.keep B1.out (by simp))
    by_cases hkn : k < n
    · have hki : (k : Int) < n := by omega
      obtain ⟨t, pp, hN⟩ := HD.out.nth (n := k) (by rw [HN.out]; exact hkn)
      obtain ⟨g, c, e1, e2, hTw⟩ := (HR.out.ts.keep0 hXX).cells hN.at_
      obtain ⟨g', c', e1', e2', hTw'⟩ := (HR'.out.ts.keep0 hXX).cells hN.at_
      have hTl := hN.ot.sd.shp.len
      have hTg := hN.ot.sd.shp.gp.le
      have hEd := Ext.drew [] wr
      have KW := sameWords_true (some ⟨g, 0, none⟩) (some ⟨g', 0, none⟩) (3 + 17 * t.G) c c' t.T wr.drew (hTw.keep0 hEd).wd (hTw'.keep0 hEd).wd hTl (by omega)
      have f1 := hEd.cell p1 (by simp)
      have f2 := hEd.cell q1 (by simp)
      have f3 := hEd.cell e1 (by simp)
      have f4 := hEd.cell e2 (by simp)
      have f5 := hEd.cell e1' (by simp)
      have f6 := hEd.cell e2' (by simp)
      have HX := hid (hX.trans hEd)
      clear hX hXX hTw hTw' hN hEd p0 p2 q0 q2
      go_wp2_with fail
      go_region_held3 (fun w' => w'.cell? ⟨z, 1, none⟩ = some (.slice (some ⟨bt, 0, none⟩) n ct) ∧ w'.cell? ⟨z + 1, 1, none⟩ = some (.slice (some ⟨bt', 0, none⟩) n ct') ∧ w'.cell? ⟨bt, k * 2, none⟩ = some (.int .i64 (t.d : Nat)) ∧ w'.cell? ⟨bt, k * 2 + 1, none⟩ = some (.slice (some ⟨g, 0, none⟩) (3 + 17 * t.G) c) ∧ w'.cell? ⟨bt', k * 2, none⟩ = some (.int .i64 (t.d : Nat)) ∧ w'.cell? ⟨bt', k * 2 + 1, none⟩ = some (.slice (some ⟨g', 0, none⟩) (3 + 17 * t.G) c'))
        (first | go_keep | exact ⟨hE5.cell f1 (by simp), hE5.cell f2 (by simp), hE5.cell f3 (by simp), hE5.cell f4 (by simp), hE5.cell f5 (by simp), hE5.cell f6 (by simp)⟩)
        (first
          | (go_at_call 34; refine KW.mono ?_; rintro _ w5 ⟨rfl, hE5⟩)
          | fail "no arm")
      have HX5 := hid (HX.out.trans hE5)
      clear f1 f2 f3 f4 f5 f6 hE5 KW p1 q1 e1 e2 e1' e2'
      go_wp2_with fail
      go_roundw
      case rel => exact ⟨k + 1, by go_num, by omega, HX5.out⟩
      case measure => simp [intOf]; omega
    · obtain rfl : k = n := by omega
      have HX := hid (HE0.out.trans hXX)
      clear hX hXX
      go_wp2_with fail
      go_ret
      exact ⟨rfl, HX.out⟩
end Go.Proofs.YtkfagfdefkaenaaDoor
