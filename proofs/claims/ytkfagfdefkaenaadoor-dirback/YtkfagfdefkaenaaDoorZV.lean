/-
  DSam, WBack: joined by program; no statement is proved here.
-/
import Derived.Test.YtkfagfdefkaenaaDoorZO
import Derived.Test.YtkfagfdefkaenaaDoorZH
import Derived.Test.YtkfagfdefkaenaaDoorZU
import Derived.Test.YtkfagfdefkaenaaDoorZQ
/-
  Two directories that are the same; no statement is proved here.
-/
namespace Go.Proofs.YtkfagfdefkaenaaDoor
open Go.RowKit Go.Shelf
open Pr (Gp GpI sq pl)
attribute [local go_sem] Oper.semAt_some run_store_func

set_option maxRecDepth 10000 in
theorem sameInts_true (b1 o1 b2 o2 n c d : Nat) (S : List Nat) (w : World) (ha : Ns w b1 o1 S) (hb : Ns w b2 o2 S) (hn : S.length = n) (hm : n ≤ 1000000) : Calls Tryd.prog 33 #[.slice (some ⟨b1, o1, none⟩) n c, .slice (some ⟨b2, o2, none⟩) n d] w (SayPost w (.bool true)) := by
  have HA := hid ha
  have HB := hid hb
  have HN := hid hn
  clear ha hb hn
  go_enter Tryd.func33, Tryd.ntmps33
  go_wp2_with fail
  go_loopw [5] (fun q wr => ∃ k : Nat, q = .int .i64 k ∧ k ≤ n ∧ Ext [] w wr) (fun q _ => (n - (intOf q)).toNat)
  case atStart => exact ⟨0, rfl, Nat.zero_le _, Ext.refl _ _⟩
  case round =>
    obtain ⟨k, rfl, hk, hX⟩ := hrel
    have HX := hid hX
    by_cases hkn : k < n
    · have hki : (k : Int) < n := by omega
      obtain ⟨x, hx⟩ : ∃ x, S[k]? = some x := ⟨_, List.getElem?_eq_getElem (by rw [HN.out]; exact hkn)⟩
      have ck1 := hX.cell (HA.out k x hx) (by simp)
      have ck2 := hX.cell (HB.out k x hx) (by simp)
      clear hX hx
      go_wp2_with (go_quiet (fail))
      go_roundw
      case rel => exact ⟨k + 1, by go_num, by omega, HX.out.trans (Ext.drewN [] _ _)⟩
      case measure => simp [intOf]; omega
    · obtain rfl : k = n := by omega
      clear hX
      go_wp2
      go_ret
      exact ⟨rfl, HX.out⟩
set_option maxRecDepth 100000 in
set_option maxHeartbeats 4000000 in
theorem sameDir_true (dp bt ct bs os cs n bt' ct' bs' os' cs' : Nat) (L : List Tq) (hD : Dq dp L) (hn : L.length = n) (w : World) (hR : Dr w bt bs os dp L) (hR' : Dr w bt' bs' os' dp L) :
    Calls Tryd.prog 11 #[dv dp bt n ct bs os (2 ^ dp) cs, dv dp bt' n ct' bs' os' (2 ^ dp) cs'] w (SayPost w (.bool true)) := by
  have hl64 := hD.len
  rw [hn] at hl64
  have hm64 := pow64 hD.le
  have hsl : (slo dp L 0).length = 2 ^ dp := by rw [slo_len, hD.all]
  obtain ⟨m, hm⟩ : ∃ m, 2 ^ dp = m := ⟨_, rfl⟩
  unfold dv
  rw [hm] at hsl hm64 ⊢
  obtain ⟨z, hz⟩ : ∃ z, w.heap.size = z := ⟨_, rfl⟩
  obtain ⟨W0, hW0⟩ : ∃ W0, (w.alloc (.cells #[.int .i64 (dp : Nat), .slice (some ⟨bt, 0, none⟩) n ct, .slice (some ⟨bs, os, none⟩) m cs] 27)).alloc (.cells #[.int .i64 (dp : Nat), .slice (some ⟨bt', 0, none⟩) n ct', .slice (some ⟨bs', os', none⟩) m cs'] 27) = W0 := ⟨_, rfl⟩
  have hE0 : Ext [] w W0 := by rw [← hW0]; exact (Ext.alloc [] _ _).trans (Ext.alloc [] _ _)
  have b0 : W0.heap[z]? = some (.cells #[.int .i64 (dp : Nat), .slice (some ⟨bt, 0, none⟩) n ct, .slice (some ⟨bs, os, none⟩) m cs] 27) := by
    rw [← hW0, ← hz]; exact (Below.heap_alloc _ _ _ (by simp)).trans (heap_alloc_new w _)
  have b1 : W0.heap[z + 1]? = some (.cells #[.int .i64 (dp : Nat), .slice (some ⟨bt', 0, none⟩) n ct', .slice (some ⟨bs', os', none⟩) m cs'] 27) := by
    have := heap_alloc_new (w.alloc (.cells #[.int .i64 (dp : Nat), .slice (some ⟨bt, 0, none⟩) n ct, .slice (some ⟨bs, os, none⟩) m cs] 27)) (.cells #[.int .i64 (dp : Nat), .slice (some ⟨bt', 0, none⟩) n ct', .slice (some ⟨bs', os', none⟩) m cs'] 27)
    rw [hW0, World.size_alloc, hz] at this; exact this
  obtain ⟨a0, a1, a2⟩ := cells3 b0
  obtain ⟨d0, d1, d2⟩ := cells3 b1
  have K := sameInts_true bs os bs' os' m cs cs' (slo dp L 0) W0 (hR.keep0 hE0).ns (hR'.keep0 hE0).ns hsl (by omega)
  have HD := hid hD
  have HN := hid hn
  have HR := hid (hR.keep0 hE0)
  have HR' := hid (hR'.keep0 hE0)
  have HE0 := hid hE0
  have B0 := hid b0
  have B1 := hid b1
  clear hD hn hR hR' hE0 b0 b1 hsl hm
  go_enter Tryd.func11, Tryd.ntmps11
  go_wp2_with fail
  try rw [hW0]
  try simp only [hz]
  clear hW0
  refine K.mono ?_
  clear K a0 a1 a2 d0 d1 d2
  rintro _ w1 ⟨rfl, hE1⟩
  obtain ⟨a0, a1, a2⟩ := cells3 (hE1.keep B0.out (by simp))
  obtain ⟨d0, d1, d2⟩ := cells3 (hE1.keep B1.out (by simp))
  have HE1 := hid hE1
  clear hE1
  go_wp2_with fail
  go_loopw [5] (fun q wr => ∃ k : Nat, q = .int .i64 k ∧ k ≤ n ∧ Ext [] w1 wr) (fun q _ => (n - (intOf q)).toNat)
  case atStart => exact ⟨0, rfl, Nat.zero_le _, Ext.refl _ _⟩
  case round =>
    obtain ⟨k, rfl, hk, hX⟩ := hrel
    have hXX := HE1.out.trans hX
    obtain ⟨p0, p1, p2⟩ := cells3 (hXX.keep B0.out (by simp))
    obtain ⟨q0, q1, q2⟩ := cells3 (hXX.keep B1.out (by simp))
    by_cases hkn : k < n
    · have hki : (k : Int) < n := by omega
      obtain ⟨t, pp, hN⟩ := HD.out.nth (n := k) (by rw [HN.out]; exact hkn)
      obtain ⟨g, c, e1, e2, hTw⟩ := (HR.out.ts.keep0 hXX).cells hN.at_
      obtain ⟨g', c', e1', e2', hTw'⟩ := (HR'.out.ts.keep0 hXX).cells hN.at_
      have hTl := hN.ot.sd.shp.len
      have hTg := hN.ot.sd.shp.gp.le
      have hEd := Ext.drew [] wr
      have KW := sameWords_true (some ⟨g, 0, none⟩) (some ⟨g', 0, none⟩) (3 + 17 * t.G) c c' t.T wr.drew (hTw.keep0 hEd).wd (hTw'.keep0 hEd).wd hTl (by omega)
      have f1 := hEd.cell p1 (by simp)
      have f2 := hEd.cell q1 (by simp)
      have f3 := hEd.cell e1 (by simp)
      have f4 := hEd.cell e2 (by simp)
      have f5 := hEd.cell e1' (by simp)
      have f6 := hEd.cell e2' (by simp)
      have HX := hid (hX.trans hEd)
      clear hX hXX hTw hTw' hN hEd p0 p2 q0 q2
      go_wp2_with fail
      go_region_held3 (fun w' => w'.cell? ⟨z, 1, none⟩ = some (.slice (some ⟨bt, 0, none⟩) n ct) ∧ w'.cell? ⟨z + 1, 1, none⟩ = some (.slice (some ⟨bt', 0, none⟩) n ct') ∧ w'.cell? ⟨bt, k * 2, none⟩ = some (.int .i64 (t.d : Nat)) ∧ w'.cell? ⟨bt, k * 2 + 1, none⟩ = some (.slice (some ⟨g, 0, none⟩) (3 + 17 * t.G) c) ∧ w'.cell? ⟨bt', k * 2, none⟩ = some (.int .i64 (t.d : Nat)) ∧ w'.cell? ⟨bt', k * 2 + 1, none⟩ = some (.slice (some ⟨g', 0, none⟩) (3 + 17 * t.G) c'))
        (first | go_keep | exact ⟨hE5.cell f1 (by simp), hE5.cell f2 (by simp), hE5.cell f3 (by simp), hE5.cell f4 (by simp), hE5.cell f5 (by simp), hE5.cell f6 (by simp)⟩)
        (first
          | (go_at_call 34; refine KW.mono ?_; rintro _ w5 ⟨rfl, hE5⟩)
          | fail "no arm")
      have HX5 := hid (HX.out.trans hE5)
      clear f1 f2 f3 f4 f5 f6 hE5 KW p1 q1 e1 e2 e1' e2'
      go_wp2_with fail
      go_roundw
      case rel => exact ⟨k + 1, by go_num, by omega, HX5.out⟩
      case measure => simp [intOf]; omega
    · obtain rfl : k = n := by omega
      have HX := hid (HE0.out.trans hXX)
      clear hX hXX
      go_wp2_with fail
      go_ret
      exact ⟨rfl, HX.out⟩
end Go.Proofs.YtkfagfdefkaenaaDoor

/-
  The walk of DirBack; no statement is proved here.
-/
namespace Go.Proofs.YtkfagfdefkaenaaDoor
open Go.RowKit Go.Shelf
open Pr (Gp GpI sq pl)
attribute [local go_sem] Oper.semAt_some run_store_func

/-- A directory that a list of words tells, and no error. -/
def OfPost (w : World) (dp : Nat) (L : List Tq) (e : Ending) (w' : World) : Prop := ∃ v, e = .returned (.tuple #[v, .int .i64 0]) ∧ Dand w w' dp v L ∧ Ext [] w w'
set_option maxRecDepth 100000 in
set_option maxHeartbeats 4000000 in
theorem of_any (b o N c dp : Nat) (L : List Tq) (hD : Dq dp L) (w : World) (hW : Wd w (some ⟨b, o, none⟩) (dw dp L)) (hN : (dw dp L).length = N) (hc : N ≤ c) (hTb : Tb w) : Calls Tryd.prog 9 #[.slice (some ⟨b, o, none⟩) N c] w (OfPost w dp L) := by
  obtain ⟨z, hz⟩ : ∃ z, w.heap.size = z := ⟨_, rfl⟩
  have hE0 := Ext.alloc [] w (.cells #[.int .i64 0, .slice none 0 0, .slice none 0 0] 27)
  have hb0 := heap_alloc_new w (.cells #[.int .i64 0, .slice none 0 0, .slice none 0 0] 27)
  obtain ⟨W0, hW0⟩ : ∃ W0, w.alloc (.cells #[.int .i64 0, .slice none 0 0, .slice none 0 0] 27) = W0 := ⟨_, rfl⟩
  rw [hW0] at hE0 hb0
  rw [hz] at hb0
  have K := read_any b o N c dp L hD W0 (hW.keep0 hE0) hN hc
  have HE0 := hid hE0
  have B0 := hid hb0
  have HTb := hid (hTb.keep0 hE0)
  have HZ := hid hz
  have HD1 := hid hD
  clear hD hW hN hc hE0 hb0 hTb
  go_enter Tryd.func9, Tryd.ntmps9
  go_wp2_with fail
  try rw [hW0]
  try simp only [hz]
  clear hW0 hz
  refine K.mono ?_
  clear K
  rintro _ w1 ⟨v, rfl, hDa, hE1⟩
  obtain ⟨n, bt, ct, bs, cs, rfl, hl1, hc1, hR1, hb1, hb2⟩ := hDa
  obtain ⟨m, hm⟩ : ∃ m, 2 ^ dp = m := ⟨_, rfl⟩
  obtain ⟨y, hy⟩ : ∃ y, w1.heap.size = y := ⟨_, rfl⟩
  have hEa := Ext.alloc [] w1 (.cells #[.int .i64 (dp : Nat), .slice (some ⟨bt, 0, none⟩) n ct, .slice (some ⟨bs, 0, none⟩) m cs] 27)
  have hba := heap_alloc_new w1 (.cells #[.int .i64 (dp : Nat), .slice (some ⟨bt, 0, none⟩) n ct, .slice (some ⟨bs, 0, none⟩) m cs] 27)
  obtain ⟨W2, hW2⟩ : ∃ W2, w1.alloc (.cells #[.int .i64 (dp : Nat), .slice (some ⟨bt, 0, none⟩) n ct, .slice (some ⟨bs, 0, none⟩) m cs] 27) = W2 := ⟨_, rfl⟩
  rw [hW2] at hEa hba
  rw [hy] at hba
  have K := sound_yes dp bt ct bs 0 cs n L HD1.out hc1 hl1 W2 (hR1.keep0 hEa) ((HTb.out.keep0 hE1).keep0 hEa)
  unfold dv at K ⊢
  rw [hm] at K ⊢
  obtain ⟨a0, a1, a2⟩ := cells3 hba
  have hz0 := hEa.keep (hE1.keep B0.out (by simp)) (by simp)
  have Hl1 := hid hl1
  have Hc1 := hid hc1
  have HR2 := hid (hR1.keep0 hEa)
  have HE2 := hid ((HE0.out.trans hE1).trans hEa)
  have HM := hid hm
  have Hba := hid hba
  have Hz0 := hid hz0
  have hW0s := HE0.out.size
  have hzy : z < y := by rw [← hy]; exact lt_of_heap (hE1.keep B0.out (by simp))
  have hzW : z < W0.heap.size := lt_of_heap B0.out
  clear hl1 hc1 hR1 hE1 hEa hm hba hz0
  go_wp2_with fail
  try rw [hW2]
  try simp only [hy]
  clear hW2 hy
  refine K.mono ?_
  clear K a0 a1 a2
  rintro _ w3 ⟨rfl, hE3⟩
  obtain ⟨a0, a1, a2⟩ := cells3 (hE3.keep Hba.out (by simp))
  have hz3 := hE3.keep Hz0.out (by simp)
  obtain ⟨y0, y1, y2⟩ := cells3 hz3
  obtain ⟨h3, x0, x1, x2⟩ := s3_of hz3 (.int .i64 (dp : Nat)) (.slice (some ⟨bt, 0, none⟩) n ct) (.slice (some ⟨bs, 0, none⟩) m cs)
  have hR3 := HR2.out.keep0 hE3
  have HF : Hid (OfPost w dp L (.returned (.tuple #[.agg #[.int .i64 (dp : Nat), .slice (some ⟨bt, 0, none⟩) n ct, .slice (some ⟨bs, 0, none⟩) m cs], .int .i64 0])) (((w3.setCell ⟨z, 0, none⟩ (.int .i64 (dp : Nat))).setCell ⟨z, 1, none⟩ (.slice (some ⟨bt, 0, none⟩) n ct)).setCell ⟨z, 2, none⟩ (.slice (some ⟨bs, 0, none⟩) m cs))) := by
    have hzw := HZ.out
    refine ⟨_, rfl, ⟨n, bt, ct, bs, cs, by unfold dv; rw [HM.out], Hl1.out, Hc1.out, ⟨hR3.ts.keep h3.ext (by simp; omega) (by simpa using fun T => not_tw_of hz3 (by decide) T), hR3.ns.keep h3.ext (by simp; omega)⟩, by omega, by omega⟩, (HE2.out.trans hE3).on h3.ext (by simp; omega)⟩
  have HS3 := hid h3.row
  clear h3 hz3 hR3 hE3
  go_wp2_with fail
  refine bodyPost_ret (results_row_tmp rfl _ _ z 27 _ (0, 0) _ (.int .i64 0) rfl rfl HS3.out Tryd.underlying27 rfl size27) rfl HF.out
/-- A directory in which a script was carried out. -/
def GwP (w : World) (e : Ending) (w' : World) : Prop := ∃ v L, e = .returned v ∧ Dans w w' v L ∧ Ext [] w w'
set_option maxRecDepth 100000 in
set_option maxHeartbeats 4000000 in
theorem dgrown_any (a : Option Addr) (n c : Nat) (S : List Opq) (w : World) (hS : Scq w a S) (hn : S.length = n) (hnb : n ≤ 17592186044416) (hTb : Tb w) : Calls Tryd.prog 25 #[.slice a n c] w (GwP w) := by
  obtain ⟨z, hz⟩ : ∃ z, w.heap.size = z := ⟨_, rfl⟩
  have hE0 := Ext.alloc [] w (.cells #[.int .i64 0, .slice none 0 0, .slice none 0 0] 27)
  have hb0 := heap_alloc_new w (.cells #[.int .i64 0, .slice none 0 0, .slice none 0 0] 27)
  obtain ⟨W0, hW0⟩ : ∃ W0, w.alloc (.cells #[.int .i64 0, .slice none 0 0, .slice none 0 0] 27) = W0 := ⟨_, rfl⟩
  rw [hW0] at hE0 hb0
  rw [hz] at hb0
  have K := carried_any a n c S W0 (hS.keep0 hE0) hn hnb (hTb.keep0 hE0)
  have HE0 := hid hE0
  have B0 := hid hb0
  have HZ := hid hz
  clear hS hn hE0 hb0 hTb
  go_enter Tryd.func25, Tryd.ntmps25
  go_wp2_with fail
  try rw [hW0]
  try simp only [hz]
  clear hW0 hz
  refine K.mono ?_
  clear K
  rintro _ w1 ⟨v, L, B, bvv, rfl, hDa, _, _, hE1⟩
  obtain ⟨dp', n1, bt, ct, bs, cs, rfl, hD1, hl1, hc1, hR1, hb1, hb2⟩ := hDa
  obtain ⟨m, hm⟩ : ∃ m, 2 ^ dp' = m := ⟨_, rfl⟩
  obtain ⟨y, hy⟩ : ∃ y, w1.heap.size = y := ⟨_, rfl⟩
  have hEa := Ext.alloc [] w1 (.cells #[.int .i64 (dp' : Nat), .slice (some ⟨bt, 0, none⟩) n1 ct, .slice (some ⟨bs, 0, none⟩) m cs] 27)
  have hba := heap_alloc_new w1 (.cells #[.int .i64 (dp' : Nat), .slice (some ⟨bt, 0, none⟩) n1 ct, .slice (some ⟨bs, 0, none⟩) m cs] 27)
  obtain ⟨W2, hW2⟩ : ∃ W2, w1.alloc (.cells #[.int .i64 (dp' : Nat), .slice (some ⟨bt, 0, none⟩) n1 ct, .slice (some ⟨bs, 0, none⟩) m cs] 27) = W2 := ⟨_, rfl⟩
  rw [hW2] at hEa hba
  rw [hy] at hba
  unfold dv
  rw [hm]
  obtain ⟨a0, a1, a2⟩ := cells3 hba
  have hz3 := hEa.keep (hE1.keep B0.out (by simp)) (by simp)
  have hR3 := hR1.keep0 hEa
  have hW0s := HE0.out.size
  have hzW : z < W0.heap.size := lt_of_heap B0.out
  obtain ⟨y0, y1, y2⟩ := cells3 hz3
  obtain ⟨h3, x0, x1, x2⟩ := s3_of hz3 (.int .i64 (dp' : Nat)) (.slice (some ⟨bt, 0, none⟩) n1 ct) (.slice (some ⟨bs, 0, none⟩) m cs)
  have HF : Hid (GwP w (.returned (.agg #[.int .i64 (dp' : Nat), .slice (some ⟨bt, 0, none⟩) n1 ct, .slice (some ⟨bs, 0, none⟩) m cs])) (((W2.setCell ⟨z, 0, none⟩ (.int .i64 (dp' : Nat))).setCell ⟨z, 1, none⟩ (.slice (some ⟨bt, 0, none⟩) n1 ct)).setCell ⟨z, 2, none⟩ (.slice (some ⟨bs, 0, none⟩) m cs))) := by
    have hzw := HZ.out
    refine ⟨_, L, rfl, ⟨dp', n1, bt, ct, bs, cs, by unfold dv; rw [hm], hD1, hl1, hc1, ⟨hR3.ts.keep h3.ext (by simp; omega) (by simpa using fun T => not_tw_of hz3 (by decide) T), hR3.ns.keep h3.ext (by simp; omega)⟩, by omega, by omega⟩, ((HE0.out.trans hE1).trans hEa).on h3.ext (by simp; omega)⟩
  have HS3 := hid h3.row
  have hzy : z < y := by rw [← hy]; exact lt_of_heap (hE1.keep B0.out (by simp))
  clear h3 hz3 hR3 hD1 hl1 hc1 hR1 hE1 hEa hba hm
  go_wp2_with fail
  try rw [hW2]
  refine bodyPost_ret (results_cell_row rfl _ _ z 27 _ (0, 0) _ rfl HS3.out Tryd.underlying27 rfl size27) rfl HF.out
set_option maxRecDepth 100000 in
set_option maxHeartbeats 4000000 in
theorem backWalk (a : Option Addr) (n c : Nat) (S : List Opq) (w : World) (hS : Scq w a S) (hn : S.length = n) (hnb : n ≤ 17592186044416) (hTb : Tb w) : Calls Tryd.prog 6 #[.slice a n c] w (SayPost w (.bool true)) := by
  have K0 := dgrown_any a n c S w hS hn hnb hTb
  have HTb := hid hTb
  clear hS hn hTb
  go_enter Tryd.func6, Tryd.ntmps6
  go_wp2_with fail
  refine K0.mono ?_
  clear K0
  rintro _ w1 ⟨v, L, rfl, hDa, hE1⟩
  obtain ⟨dp, n', bt, ct, bs, cs, rfl, hD, hl, hcs, hR, _, _⟩ := hDa
  obtain ⟨m, hm⟩ : ∃ m, 2 ^ dp = m := ⟨_, rfl⟩
  unfold dv
  rw [hm]
  obtain ⟨z, hz⟩ : ∃ z, w1.heap.size = z := ⟨_, rfl⟩
  have hEa := Ext.alloc [] w1 (.cells #[.int .i64 (dp : Nat), .slice (some ⟨bt, 0, none⟩) n' ct, .slice (some ⟨bs, 0, none⟩) m cs] 27)
  have hb0 := heap_alloc_new w1 (.cells #[.int .i64 (dp : Nat), .slice (some ⟨bt, 0, none⟩) n' ct, .slice (some ⟨bs, 0, none⟩) m cs] 27)
  obtain ⟨W2, hW2⟩ : ∃ W2, w1.alloc (.cells #[.int .i64 (dp : Nat), .slice (some ⟨bt, 0, none⟩) n' ct, .slice (some ⟨bs, 0, none⟩) m cs] 27) = W2 := ⟨_, rfl⟩
  rw [hW2] at hEa hb0
  rw [hz] at hb0
  have h0n' : 0 < n' := by
    rcases Nat.eq_zero_or_pos n' with e | e
    · obtain rfl : L = [] := List.length_eq_zero_iff.1 (by rw [hl]; exact e)
      have h1 := hD.all
      have h2 := Nat.pow_pos (n := dp) (show 0 < 2 by omega)
      simp only [pre] at h1
      omega
    · exact e
  have HD := hid hD
  have HL := hid hl
  have HM := hid hm
  have HR := hid (hR.keep0 hEa)
  have HE2 := hid (hE1.trans hEa)
  have Hb0 := hid hb0
  have HCs := hid hcs
  clear hD hl hm hR hE1 hEa hb0 hcs
  go_wp2_with fail
  try rw [hW2]
  try simp only [hz]
  clear hW2 hz
  refine (awake_any W2).mono ?_
  rintro _ w3 ⟨rfl, hX⟩
  have HR3 := hid (HR.out.keep0 hX)
  have HE3 := hid (HE2.out.trans hX)
  have hb3 := hX.keep Hb0.out (by simp)
  have Hb3 := hid hb3
  have HTb3 := hid (HTb.out.keep0 HE3.out)
  obtain ⟨f0, f1, f2⟩ := cells3 hb3
  have KC := copyDir_any dp bt ct bs 0 cs n' L HD.out HL.out h0n' w3 HR3.out
  unfold dv at KC
  rw [HM.out] at KC
  clear hX HR HE2 Hb0 HTb hb3
  go_wp2_with fail
  refine KC.mono ?_
  clear KC f0 f1 f2
  rintro _ w5 ⟨btc, ctc, bsc, csc, hvc, hR5, hc5, _, _, hE5⟩
  have HX5 := hid hE5
  have KW := dwords_any dp btc ctc bsc 0 csc n' L HD.out hc5 HL.out w5 hR5 (HTb3.out.keep0 hE5)
  unfold dv at KW hvc
  rw [HM.out] at KW hvc
  subst hvc
  clear hR5 hc5 hE5
  go_wp2_with fail
  refine KW.mono ?_
  clear KW
  rintro _ w6 ⟨wa, wn, wc, rfl, hwl, hwo, hE6⟩
  have HX6 := hid (HX5.out.trans hE6)
  have hEb := Ext.alloc [] w6 (.cells #[] 37)
  have hown0 : (w6.alloc (.cells #[] 37)).ownsRow w6.heap.size 37 1 (.slice (some ⟨w6.heap.size, 0, none⟩) 0 0) 0 [] := World.ownsRow_made w6 #[] 0 (Nat.le_refl _) (Nat.zero_le _) rfl
  have hwb : wn ≤ 4456800 := by
    rw [← hwl]
    unfold dw
    rw [List.length_append, List.length_cons, List.length_cons, slo_len, HD.out.all]
    have := HD.out.tws_le
    have := pow64 HD.out.le
    omega
  have hw0 : 0 < wn := by rw [← hwl]; simp [dw]
  obtain ⟨v7, w7, hr7, ho7, hE7, _⟩ := app_own w6 _ hEb 22 22 37 _ 8 Tryd.underlying22 info37 rfl (by omega) _ 0 [] hown0 wa wn wc (vw (dw dp L)) (by rw [vw_len]; exact hwl) ((own_vs hwo).keep0 hEb) (vw_one _) (by omega)
  rw [Nat.zero_add, List.nil_append] at ho7
  obtain ⟨a7, c7, rfl, hc7⟩ := own_slice ho7
  obtain ⟨g7, rfl, _, hT7⟩ := tw_of_own ho7 hwl hw0
  have HX7 := hid (HX6.out.trans hE7)
  have KO := of_any g7 0 wn c7 dp L HD.out w7 hT7.wd hwl hc7 (HTb3.out.keep0 HX7.out)
  clear hE6 hwl hwo hEb hown0 ho7 hT7 hE7 HX5 HX6
  go_wp2_with (at_builtin; refine wpList_append_run rfl _ _ 22 rfl _ _ _ rfl rfl hr7 ?_)
  refine KO.mono ?_
  clear KO hr7
  rintro _ w8 ⟨v8, rfl, hDa8, hE8⟩
  obtain ⟨n8, bt8, ct8, bs8, cs8, rfl, hl8, hc8, hR8, _, _⟩ := hDa8
  have HX8 := hid (HX7.out.trans hE8)
  obtain rfl : n8 = n' := by rw [← hl8, HL.out]
  unfold dv
  rw [HM.out]
  obtain ⟨y, hy⟩ : ∃ y, w8.heap.size = y := ⟨_, rfl⟩
  have hEc := Ext.alloc [] w8 (.cells #[.int .i64 (dp : Nat), .slice (some ⟨bt8, 0, none⟩) n8 ct8, .slice (some ⟨bs8, 0, none⟩) m cs8] 27)
  have hb8 := heap_alloc_new w8 (.cells #[.int .i64 (dp : Nat), .slice (some ⟨bt8, 0, none⟩) n8 ct8, .slice (some ⟨bs8, 0, none⟩) m cs8] 27)
  obtain ⟨W9, hW9⟩ : ∃ W9, w8.alloc (.cells #[.int .i64 (dp : Nat), .slice (some ⟨bt8, 0, none⟩) n8 ct8, .slice (some ⟨bs8, 0, none⟩) m cs8] 27) = W9 := ⟨_, rfl⟩
  rw [hW9] at hEc hb8
  rw [hy] at hb8
  obtain ⟨c0, c1, c2⟩ := cells3 hb8
  have hX9 := HX8.out.trans hEc
  obtain ⟨d0, d1, d2⟩ := cells3 (hX9.keep Hb3.out (by simp))
  have KS := sameDir_true dp bt8 ct8 bs8 0 cs8 n8 bt ct bs 0 cs L HD.out HL.out W9 (hR8.keep0 hEc) (HR3.out.keep0 hX9)
  unfold dv at KS
  rw [HM.out] at KS
  have HX9 := hid (HE3.out.trans hX9)
  clear hl8 hc8 hR8 hE8 hEc hb8 hX9 HX7 HX8
  go_wp2_with fail
  try rw [hW9]
  try simp only [hy]
  refine KS.mono ?_
  clear KS
  rintro _ w10 ⟨rfl, hE10⟩
  have HX10 := hid (HX9.out.trans hE10)
  clear hE10
  go_wp2_with fail
  go_ret
  exact ⟨rfl, HX10.out⟩
end Go.Proofs.YtkfagfdefkaenaaDoor
