/-
  WPlays: joined by program; no statement is proved here.
-/
import Derived.Test.YtkfagfdefkaenaaDoorZPO
import Derived.Test.YtkfagfdefkaenaaDoorZPP
import Derived.Test.YtkfagfdefkaenaaDoorZPQ
/-
  The walk of DirPlays; no statement is proved here.
-/
namespace Go.Proofs.YtkfagfdefkaenaaDoor.Rf
open Go.RowKit Go.Shelf
open Pr (Gp GpI sq pl)
attribute [local go_sem] Oper.semAt_some run_store_func

set_option maxRecDepth 100000 in
set_option maxHeartbeats 8000000 in
theorem dplaysWalk (a : Option Addr) (n c : Nat) (S : List Opq) (w : World) (hS : Scq w a S) (hn : S.length = n) (hnb : n ≤ 17592186044416) (hTb : Tb w) : Calls Tryd.prog 4 #[.slice a n c] w (SayPost w (.bool true)) := by
  have HS := hid hS
  have HN := hid hn
  have HTb := hid hTb
  clear hS hn hTb
  go_enter Tryd.func4, Tryd.ntmps4
  go_wp2_with fail
  refine (awake_any w).mono ?_
  rintro _ w1 ⟨rfl, hE1⟩
  have K2 := dnewG_any w1
  have HE1 := hid hE1
  clear hE1
  go_wp2_with fail
  refine K2.mono ?_
  clear K2
  rintro _ w2 ⟨bt0, ct0, bs0, cs0, rfl, hR2, hc2, hb1, hb2, hE2⟩
  obtain ⟨z, hz⟩ : ∃ z, w2.heap.size = z := ⟨_, rfl⟩
  have hEa := Ext.alloc [] w2 (.cells #[.int .i64 0, .slice (some ⟨bt0, 0, none⟩) 1 ct0, .slice (some ⟨bs0, 0, none⟩) 1 cs0] 27)
  have hbd := heap_alloc_new w2 (.cells #[.int .i64 0, .slice (some ⟨bt0, 0, none⟩) 1 ct0, .slice (some ⟨bs0, 0, none⟩) 1 cs0] 27)
  obtain ⟨W3, hW3⟩ : ∃ W3, w2.alloc (.cells #[.int .i64 0, .slice (some ⟨bt0, 0, none⟩) 1 ct0, .slice (some ⟨bs0, 0, none⟩) 1 cs0] 27) = W3 := ⟨_, rfl⟩
  rw [hW3] at hEa hbd
  rw [hz] at hbd
  have K4 := newDir_any W3
  have HR3 := hid (hR2.keep0 hEa)
  have HE3 := hid ((HE1.out.trans hE2).trans hEa)
  have Hbd := hid hbd
  have hwz : w.heap.size ≤ z := by
    have h1 := HE1.out.size
    have h2 := hE2.size
    omega
  have hbsz : bs0 < z := by
    have := World.block_lt_of_cell? w2 _ (hR2.ns 0 0 (by simp [slo, wdt]))
    simp at this
    omega
  clear hR2 hE2 hEa hbd
  go_wp2_with fail
  try rw [hW3]
  try simp only [hz]
  clear hW3 hz
  refine K4.mono ?_
  clear K4
  rintro _ w4 ⟨pd, qd0, cd0, R0, rfl, hRd, hLo, hE4⟩
  have hI0 : PlI w z pd w4 := by
    have hs3 := HE3.out.size
    have hz3 : z < W3.heap.size := lt_of_heap Hbd.out
    refine ⟨⟨0, 1, bt0, ct0, bs0, cs0, _, qd0, cd0, R0, hE4.keep Hbd.out (by simp), dq_new, g2_new, rfl, hc2, HR3.out.keep0 hE4, hRd, ⟨by have := hLo.1; omega, by have := hLo.2.1; omega, fun r hr => by have := hLo.2.2 r hr; omega⟩, fun hm => ?_, by have := hE4.size; omega, by omega⟩, HE3.out.trans hE4⟩
    rcases foot_mem hm with e | ⟨r, hr, e⟩
    · have := hLo.1; omega
    · have := hLo.2.2 r hr
      rcases e with e | e <;> omega
  have HI0 := hid hI0
  clear hI0 hRd hLo hE4
  go_wp2_with fail
  go_loopw [5] (fun q wr => ∃ k : Nat, q = .int .i64 k ∧ k ≤ n ∧ PlI w z pd wr) (fun q _ => (n - (intOf q)).toNat)
  case atStart => exact ⟨0, rfl, Nat.zero_le _, HI0.out⟩
  case round =>
    obtain ⟨k, rfl, hk, hI⟩ := hrel
    obtain ⟨⟨dp, n', bt, ct, bs, cs, L, qd, cd, R, hrow, hD, hG, hln, hcs, hR, hRd, hLo, hbf, hbl, hbz⟩, hext⟩ := hI
    obtain ⟨d0, d1, d2⟩ := cells3 hrow
    have h0n' : 0 < n' := by
      rcases Nat.eq_zero_or_pos n' with e | e
      · obtain rfl : L = [] := List.length_eq_zero_iff.1 (by omega)
        have h1 := hD.all
        have h2 := Nat.pow_pos (n := dp) (show 0 < 2 by omega)
        simp only [pre] at h1
        omega
      · exact e
    obtain ⟨m', hm'⟩ : ∃ m', 2 ^ dp = m' := ⟨_, rfl⟩
    rw [hm'] at d2 hrow
    by_cases hkn : k < n
    · have hki : (k : Int) < n := by omega
      obtain ⟨x, hx⟩ : ∃ x, S[k]? = some x := ⟨_, List.getElem?_eq_getElem (by rw [HN.out]; exact hkn)⟩
      obtain ⟨hxh, hxd⟩ := HS.out.1 x (List.mem_of_getElem? hx)
      obtain ⟨sb, so, rfl, hsc⟩ : ∃ b o, a = some ⟨b, o, none⟩ ∧ ∀ j x, S[j]? = some x → wr.cell? ⟨b, o + j * 3, none⟩ = some (.bool x.del) ∧ wr.cell? ⟨b, o + j * 3 + 1, none⟩ = some (.int .u64 (x.h : Nat)) ∧ wr.cell? ⟨b, o + j * 3 + 2, none⟩ = some (.int .u64 (x.d : Nat)) := by
        rcases (HS.out.keep0 hext).2 with e | e
        · rw [e] at hx; simp at hx
        · exact e
      obtain ⟨t0, t1, t2⟩ := hsc k x hx
      obtain ⟨xdel, xh, xd⟩ := x
      simp only at hxh hxd t0 t1 t2
      obtain ⟨zo, hzo⟩ : ∃ zo, wr.heap.size = zo := ⟨_, rfl⟩
      have hEA := Ext.alloc [] wr (.cells #[.bool xdel, .int .u64 (xh : Nat), .int .u64 (xd : Nat)] 39)
      have hxb := heap_alloc_new wr (.cells #[.bool xdel, .int .u64 (xh : Nat), .int .u64 (xd : Nat)] 39)
      obtain ⟨U0, hU0⟩ : ∃ U0, wr.alloc (.cells #[.bool xdel, .int .u64 (xh : Nat), .int .u64 (xd : Nat)] 39) = U0 := ⟨_, rfl⟩
      rw [hU0] at hEA hxb
      rw [hzo] at hxb
      have hEd := Ext.drew [] U0
      have f0 : U0.drew.cell? ⟨z, 0, none⟩ = some (.int .i64 (dp : Nat)) := hEA.cell d0 (by simp)
      have f1 : U0.drew.cell? ⟨z, 1, none⟩ = some (.slice (some ⟨bt, 0, none⟩) n' ct) := hEA.cell d1 (by simp)
      have f2 : U0.drew.cell? ⟨z, 2, none⟩ = some (.slice (some ⟨bs, 0, none⟩) m' cs) := hEA.cell d2 (by simp)
      have g0 : U0.cell? ⟨zo, 0, none⟩ = some (.bool xdel) := by rw [cell_of_row _ _ _ _ _ _ hxb]; rfl
      have g1 : U0.drew.cell? ⟨zo, 1, none⟩ = some (.int .u64 (xh : Nat)) := by show U0.cell? _ = _; rw [cell_of_row _ _ _ _ _ _ hxb]; rfl
      have g2 : U0.drew.cell? ⟨zo, 2, none⟩ = some (.int .u64 (xd : Nat)) := by show U0.cell? _ = _; rw [cell_of_row _ _ _ _ _ _ hxb]; rfl
      have KC := fun v (hv : Ext [] U0.drew v) => copyDir_any dp bt ct bs 0 cs n' L hD hln h0n' v (((hR.keep0 hEA).keep0 hEd).keep0 hv)
      unfold dv at KC
      rw [hm'] at KC
      have HD := hid hD
      have HG := hid hG
      have HLn := hid hln
      have HRow := hid (hEA.keep hrow (by simp))
      have HXb := hid hxb
      have HRd := hid (hRd.keep0 hEA)
      have HLo := hid hLo
      have HR := hid (hR.keep0 hEA)
      have HextU := hid (hext.trans hEA)
      have hzz : z < zo := by have := lt_of_heap hrow; omega
      have HUs : Hid (U0.heap.size = zo + 1) := by rw [← hU0]; exact (World.size_alloc _ _).trans (by rw [hzo])
      clear hD hG hln hrow hxb hRd hLo hR hext hEA hx hsc
      have HKeep : Hid (∀ u, Ext [] U0.drew u → (u.cell? ⟨z, 0, none⟩ = some (.int .i64 (dp : Nat)) ∧ u.cell? ⟨z, 1, none⟩ = some (.slice (some ⟨bt, 0, none⟩) n' ct) ∧ u.cell? ⟨z, 2, none⟩ = some (.slice (some ⟨bs, 0, none⟩) m' cs) ∧ u.cell? ⟨zo, 1, none⟩ = some (.int .u64 (xh : Nat)) ∧ u.cell? ⟨zo, 2, none⟩ = some (.int .u64 (xd : Nat)))) := fun u hu => ⟨hu.cell f0 (by simp), hu.cell f1 (by simp), hu.cell f2 (by simp), hu.cell g1 (by simp), hu.cell g2 (by simp)⟩
      have hK0 := HKeep.out U0.drew (Ext.refl [] _)
      have hA1 : Ext [] U0.drew (U0.alloc (.cells #[.int .i64 0, .slice none 0 0, .slice none 0 0] 27)).drew := Ext.alloc [] U0.drew (.cells #[.int .i64 0, .slice none 0 0, .slice none 0 0] 27)
      have HN1 : Hid ((U0.alloc (.cells #[.int .i64 0, .slice none 0 0, .slice none 0 0] 27)).drew.heap[U0.heap.size]? = some (.cells #[.int .i64 0, .slice none 0 0, .slice none 0 0] 27)) := heap_alloc_new U0 (.cells #[.int .i64 0, .slice none 0 0, .slice none 0 0] 27)
      have hK1 := HKeep.out _ hA1
      cases xdel
      · have KO := fun v (hv : Ext [] U0 v) btc ctc bsc csc (hc : 2 ^ dp ≤ csc) (hRc : Dr v btc bsc 0 dp L) => ins_g dp btc ctc bsc 0 csc n' xh xd L HD.out hc HLn.out hxh hxd v hRc ((HTb.out.keep0 HextU.out).keep0 hv)
        have hRs := hid (rsn_ins HD.out HG.out hxh hxd : Rsn dp L (InsD xh xd dp L))
        unfold dv at KO
        rw [hm'] at KO
        go_wp2_with fail
        go_region_held3 (fun w' => w'.cell? ⟨z, 0, none⟩ = some (.int .i64 (dp : Nat)) ∧ w'.cell? ⟨z, 1, none⟩ = some (.slice (some ⟨bt, 0, none⟩) n' ct) ∧ w'.cell? ⟨z, 2, none⟩ = some (.slice (some ⟨bs, 0, none⟩) m' cs) ∧ w'.cell? ⟨zo, 1, none⟩ = some (.int .u64 (xh : Nat)) ∧ w'.cell? ⟨zo, 2, none⟩ = some (.int .u64 (xd : Nat)))
          (first | with_reducible exact hK0 | with_reducible exact HKeep.out _ hC6 | with_reducible exact HKeep.out _ hE5u | with_reducible exact hK1 | with_reducible exact HKeep.out _ (hE5u.trans (Ext.alloc [] w5 _)) | with_reducible exact HKeep.out _ (hC6.trans (Ext.alloc [] w6 _)) | with_reducible exact hset | fail "no keep")
          (first
            | (go_at_call 15; refine (KC _ (by first | with_reducible exact Ext.refl [] _ | with_reducible exact hA1)).mono ?_; rintro _ w5 ⟨btc, ctc, bsc, csc, hvc, hR5, hc5, _, _, hE5⟩; unfold dv at hvc; rw [hm'] at hvc; subst hvc; have hE5u : Ext [] U0.drew w5 := (by first | with_reducible exact hE5 | with_reducible exact hA1.trans hE5))
            | (go_at_call 17; refine (KO _ (by first | with_reducible exact hEd.trans hE5u | with_reducible exact (hEd.trans hE5u).trans (Ext.alloc [] _ _)) btc ctc bsc csc (by rw [← hm']; exact hc5) (by first | with_reducible exact hR5 | with_reducible exact hR5.keep0 (Ext.alloc [] _ _))).mono ?_; rintro _ w6 ⟨P, qa, qn, qc, ra, rn, rc, er, rfl, hE6, hout⟩; have hC6 : Ext [] U0.drew w6 := hE5u.trans (by first | with_reducible exact hE6 | with_reducible exact (Ext.alloc [] _ _).trans hE6); have hs5 := hE5u.size; (first | (have hx6 := (show Ext [] (w5.alloc (.cells #[.int .i64 0, .slice none 0 0, .slice none 0 0] 27)) w6 by with_reducible exact hE6).keep (heap_alloc_new w5 (.cells #[.int .i64 0, .slice none 0 0, .slice none 0 0] 27)) (by simp); obtain ⟨y0, y1, y2⟩ := cells3 hx6; obtain ⟨h3, x0, x1, x2⟩ := s3_of hx6 (.int .i64 P) (.slice qa qn qc) (.slice ra rn rc); have hzx1 : z ∉ [w5.heap.size] := (by have hq := HUs.out; have hq5 : U0.heap.size ≤ w5.heap.size := hs5; simp; omega); have hzx2 : zo ∉ [w5.heap.size] := (by have hq := HUs.out; have hq5 : U0.heap.size ≤ w5.heap.size := hs5; simp; omega); have hK6 := HKeep.out _ hC6; have hset : (((w6.setCell ⟨w5.heap.size, 0, none⟩ (.int .i64 P)).setCell ⟨w5.heap.size, 1, none⟩ (.slice qa qn qc)).setCell ⟨w5.heap.size, 2, none⟩ (.slice ra rn rc)).cell? ⟨z, 0, none⟩ = some (.int .i64 (dp : Nat)) ∧ (((w6.setCell ⟨w5.heap.size, 0, none⟩ (.int .i64 P)).setCell ⟨w5.heap.size, 1, none⟩ (.slice qa qn qc)).setCell ⟨w5.heap.size, 2, none⟩ (.slice ra rn rc)).cell? ⟨z, 1, none⟩ = some (.slice (some ⟨bt, 0, none⟩) n' ct) ∧ (((w6.setCell ⟨w5.heap.size, 0, none⟩ (.int .i64 P)).setCell ⟨w5.heap.size, 1, none⟩ (.slice qa qn qc)).setCell ⟨w5.heap.size, 2, none⟩ (.slice ra rn rc)).cell? ⟨z, 2, none⟩ = some (.slice (some ⟨bs, 0, none⟩) m' cs) ∧ (((w6.setCell ⟨w5.heap.size, 0, none⟩ (.int .i64 P)).setCell ⟨w5.heap.size, 1, none⟩ (.slice qa qn qc)).setCell ⟨w5.heap.size, 2, none⟩ (.slice ra rn rc)).cell? ⟨zo, 1, none⟩ = some (.int .u64 (xh : Nat)) ∧ (((w6.setCell ⟨w5.heap.size, 0, none⟩ (.int .i64 P)).setCell ⟨w5.heap.size, 1, none⟩ (.slice qa qn qc)).setCell ⟨w5.heap.size, 2, none⟩ (.slice ra rn rc)).cell? ⟨zo, 2, none⟩ = some (.int .u64 (xd : Nat)) := ⟨h3.ext.cell hK6.1 hzx1, h3.ext.cell hK6.2.1 hzx1, h3.ext.cell hK6.2.2.1 hzx1, h3.ext.cell hK6.2.2.2.1 hzx2, h3.ext.cell hK6.2.2.2.2 hzx2⟩) | (have hx6 := (show Ext [] w5 w6 by with_reducible exact hE6).keep ((show Ext [] (U0.alloc (.cells #[.int .i64 0, .slice none 0 0, .slice none 0 0] 27)).drew w5 by with_reducible exact hE5).keep HN1.out (by simp)) (by simp); obtain ⟨y0, y1, y2⟩ := cells3 hx6; obtain ⟨h3, x0, x1, x2⟩ := s3_of hx6 (.int .i64 P) (.slice qa qn qc) (.slice ra rn rc); have hzx1 : z ∉ [U0.heap.size] := (by have hq := HUs.out; have hq5 : U0.heap.size ≤ w5.heap.size := hs5; simp; omega); have hzx2 : zo ∉ [U0.heap.size] := (by have hq := HUs.out; have hq5 : U0.heap.size ≤ w5.heap.size := hs5; simp; omega); have hK6 := HKeep.out _ hC6; have hset : (((w6.setCell ⟨U0.heap.size, 0, none⟩ (.int .i64 P)).setCell ⟨U0.heap.size, 1, none⟩ (.slice qa qn qc)).setCell ⟨U0.heap.size, 2, none⟩ (.slice ra rn rc)).cell? ⟨z, 0, none⟩ = some (.int .i64 (dp : Nat)) ∧ (((w6.setCell ⟨U0.heap.size, 0, none⟩ (.int .i64 P)).setCell ⟨U0.heap.size, 1, none⟩ (.slice qa qn qc)).setCell ⟨U0.heap.size, 2, none⟩ (.slice ra rn rc)).cell? ⟨z, 1, none⟩ = some (.slice (some ⟨bt, 0, none⟩) n' ct) ∧ (((w6.setCell ⟨U0.heap.size, 0, none⟩ (.int .i64 P)).setCell ⟨U0.heap.size, 1, none⟩ (.slice qa qn qc)).setCell ⟨U0.heap.size, 2, none⟩ (.slice ra rn rc)).cell? ⟨z, 2, none⟩ = some (.slice (some ⟨bs, 0, none⟩) m' cs) ∧ (((w6.setCell ⟨U0.heap.size, 0, none⟩ (.int .i64 P)).setCell ⟨U0.heap.size, 1, none⟩ (.slice qa qn qc)).setCell ⟨U0.heap.size, 2, none⟩ (.slice ra rn rc)).cell? ⟨zo, 1, none⟩ = some (.int .u64 (xh : Nat)) ∧ (((w6.setCell ⟨U0.heap.size, 0, none⟩ (.int .i64 P)).setCell ⟨U0.heap.size, 1, none⟩ (.slice qa qn qc)).setCell ⟨U0.heap.size, 2, none⟩ (.slice ra rn rc)).cell? ⟨zo, 2, none⟩ = some (.int .u64 (xd : Nat)) := ⟨h3.ext.cell hK6.1 hzx1, h3.ext.cell hK6.2.1 hzx1, h3.ext.cell hK6.2.2.1 hzx1, h3.ext.cell hK6.2.2.2.1 hzx2, h3.ext.cell hK6.2.2.2.2 hzx2⟩) | skip))
            | fail "no arm")
        · obtain ⟨zx, hzx⟩ : ∃ zx, w6.heap.size = zx := ⟨_, rfl⟩
          have hx7 := heap_alloc_new w6 (.cells #[.int .i64 P, .slice qa qn qc, .slice ra rn rc] 27)
          have hE7 := Ext.alloc [] w6 (.cells #[.int .i64 P, .slice qa qn qc, .slice ra rn rc] 27)
          obtain ⟨w7, hw7⟩ : ∃ w7, w6.alloc (.cells #[.int .i64 P, .slice qa qn qc, .slice ra rn rc] 27) = w7 := ⟨_, rfl⟩
          rw [hw7] at hx7 hE7
          rw [hzx] at hx7
          try rw [hw7]
          try simp only [hzx]
          clear hw7
          have hC7 : Ext [] U0 w7 := (hEd.trans hC6).trans hE7
          have HOut : Hid ((er = 0 ∧ ∃ dp1 L1 nq bq cq bsq csq, Value.agg #[.int .i64 P, .slice qa qn qc, .slice ra rn rc] = dv dp1 bq nq cq bsq 0 (2 ^ dp1) csq ∧ Dq dp1 L1 ∧ L1.length = nq ∧ 2 ^ dp1 ≤ csq ∧ Dr w7 bq bsq 0 dp1 L1 ∧ U0.heap.size ≤ bsq ∧ InsD xh xd dp L (some (dp1, L1))) ∨ (er ≠ 0 ∧ InsD xh xd dp L none)) := by
            rcases hout with ⟨e0, dp1, L1, ⟨nq, bq, cq, bsq, csq, hv, hDq, hlq, hcq, hRq, hbq1, hbq2⟩, hRes⟩ | ⟨hne, hRes⟩
            · exact .inl ⟨e0, dp1, L1, nq, bq, cq, bsq, csq, hv, hDq, hlq, hcq, hRq.keep0 hE7, Nat.le_trans hs5 hbq2, hRes⟩
            · exact .inr ⟨hne, hRes⟩
          clear hE7 hzx
          have hxb7 := hC7.keep HXb.out (by simp)
          have j1 : w7.cell? ⟨zo, 1, none⟩ = some (.int .u64 (xh : Nat)) := by rw [cell_of_row _ _ _ _ _ _ hxb7]; rfl
          have j2 : w7.cell? ⟨zo, 2, none⟩ = some (.int .u64 (xd : Nat)) := by rw [cell_of_row _ _ _ _ _ _ hxb7]; rfl
          have hRd7 := HRd.out.keep0 hC7
          have hz7 := hC7.keep HRow.out (by simp)
          have KD := rins_g pd qd cd dp xh xd L R HD.out HG.out hxh hxd w w7 (HextU.out.trans hC7) HLo.out hRd7
          have hfU := foot_lt HRd.out
          have hs7 : U0.heap.size ≤ w7.heap.size := hC7.size
          have HC7 := hid hC7
          have HRd7 := hid hRd7
          have Hz7 := hid hz7
          have Hx7 := hid hx7
          have hUz := HUs.out
          have HSz := hid (show z < U0.heap.size ∧ bs < U0.heap.size by omega)
          clear hUz hxb7 hC7 hC6 hE5 hE5u hE6 hout hR5 hc5 KO KC f0 f1 f2 g0 g1 g2 d0 d1 d2 t0 t1 t2 hEd hz7 hx7 hRd7 HKeep hK0 hK1 hA1 HN1
          go_wp2_with fail
          refine KD.mono ?_
          clear KD
          rintro _ w8 ⟨bb, rfl, hE8, hF8, dp2, L2, qd2, cd2, R2, hRd8, hLo8, hNw8, hb8⟩
          have hz8 := hF8.keep Hz7.out (foot_ne HRd7.out Hz7.out (by decide))
          have hx8 := hF8.keep Hx7.out (foot_ne HRd7.out Hx7.out (by decide))
          have hs8 := hF8.size
          rcases HOut.out with ⟨rfl, dp1, L1, nq, bq, cq, bsq, csq, hv, hDq, hlq, hcq, hR7, hbq, hRes⟩ | ⟨hne, hRes⟩
          · obtain ⟨hbb, e1, e2⟩ := pl_both hRs.out (er := 0) (.inl ⟨rfl, hRes⟩) hb8
            subst e1 e2
            obtain rfl : bb = true := by rw [hbb]; rfl
            unfold dv at hv
            simp only [Value.agg.injEq, Array.mk.injEq, List.cons.injEq, Value.int.injEq, true_and, Value.slice.injEq, and_true] at hv
            obtain ⟨e1, ⟨e2, e3, e4⟩, e5, e6, e7⟩ := hv
            subst e1 e2 e3 e4 e5 e6 e7
            have hnx := hRs.out.nxt _ _ hRes
            obtain ⟨v0, v1, v2⟩ := cells3 hx8
            obtain ⟨r0, r1, r2⟩ := cells3 hz8
            generalize hmq : 2 ^ dp1 = mq at *
            obtain ⟨h9, q0, q1, q2⟩ := s3_of hz8 (.int .i64 (dp1 : Nat)) (.slice (some ⟨bq, 0, none⟩) qn qc) (.slice (some ⟨bsq, 0, none⟩) mq rc)
            have HF : Hid (PlI w z pd (((w8.setCell ⟨z, 0, none⟩ (.int .i64 (dp1 : Nat))).setCell ⟨z, 1, none⟩ (.slice (some ⟨bq, 0, none⟩) qn qc)).setCell ⟨z, 2, none⟩ (.slice (some ⟨bsq, 0, none⟩) mq rc))) := by
              have hsz := HSz.out
              have hbf7 : bsq ∉ foot pd R := fun hm => by have := hfU _ hm; omega
              have hbl7 := dr_lt hDq hR7
              have hR8 := dr_foot hR7 HRd7.out hF8 hbf7
              have hbz2 : bsq ≠ z := by omega
              have hs9 := h9.ext.size
              exact ⟨⟨dp1, qn, bq, qc, bsq, rc, L1, qd2, cd2, R2, by rw [hmq]; exact h9.row, hDq, hnx.2, hlq, by rw [hmq]; exact hcq, dr_keep27 hR8 h9.ext hz8 hbz2, rd_keep27 hRd8 h9.ext hz8, hLo8, nf_step hNw8 hbf7 hbl7, by omega, hbz2⟩, hE8.on h9.ext (by simpa using hwz)⟩
            clear h9 hz8 hx8 hDq hRes hb8 hNw8 hLo8 hRd8 hF8 hE8 hnx hmq hbb HOut hR7 hlq hcq
            go_wp2_with fail
            go_roundw
            case rel => exact ⟨k + 1, by go_num, by omega, HF.out⟩
            case measure => simp [intOf]; omega
          · obtain ⟨hbb, e1, e2⟩ := pl_both hRs.out (dp1 := dp) (L1 := L) (.inr ⟨hne, hRes, rfl, rfl⟩) hb8
            subst e1 e2
            have he0 : (er == 0) = false := by simpa using hne
            obtain rfl : bb = false := by rw [hbb]; exact he0
            have HF : Hid (PlI w z pd w8) := by
              have hsz := HSz.out
              have hR8 := dr_foot (HR.out.keep0 HC7.out) HRd7.out hF8 hbf
              exact ⟨⟨dp, n', bt, ct, bs, cs, L, qd2, cd2, R2, by rw [hm']; exact hz8, HD.out, HG.out, HLn.out, hcs, hR8, hRd8, hLo8, nf_step hNw8 hbf (by omega), by omega, hbz⟩, hE8⟩
            clear hz8 hx8 hRes hb8 hNw8 hLo8 hRd8 hF8 hE8 hbb HOut
            go_wp2_with fail
            go_roundw
            case rel => exact ⟨k + 1, by go_num, by omega, HF.out⟩
            case measure => simp [intOf]; omega
        · obtain ⟨zx, hzx⟩ : ∃ zx, w5.heap.size = zx := ⟨_, rfl⟩
          rw [hzx] at h3 hx6
          try simp only [hzx]
          obtain ⟨w7, hw7⟩ : ∃ w7, ((w6.setCell ⟨zx, 0, none⟩ (.int .i64 P)).setCell ⟨zx, 1, none⟩ (.slice qa qn qc)).setCell ⟨zx, 2, none⟩ (.slice ra rn rc) = w7 := ⟨_, rfl⟩
          rw [hw7] at h3
          try rw [hw7]
          clear hw7
          have hx7 := h3.row
          have hU5 : U0.heap.size ≤ w5.heap.size := hs5
          have hzxU : U0.heap.size ≤ zx := by omega
          have hC7 : Ext [] U0 w7 := (hEd.trans hC6).on h3.ext (by simpa using hzxU)
          have HOut : Hid ((er = 0 ∧ ∃ dp1 L1 nq bq cq bsq csq, Value.agg #[.int .i64 P, .slice qa qn qc, .slice ra rn rc] = dv dp1 bq nq cq bsq 0 (2 ^ dp1) csq ∧ Dq dp1 L1 ∧ L1.length = nq ∧ 2 ^ dp1 ≤ csq ∧ Dr w7 bq bsq 0 dp1 L1 ∧ U0.heap.size ≤ bsq ∧ InsD xh xd dp L (some (dp1, L1))) ∨ (er ≠ 0 ∧ InsD xh xd dp L none)) := by
            rcases hout with ⟨e0, dp1, L1, ⟨nq, bq, cq, bsq, csq, hv, hDq, hlq, hcq, hRq, hbq1, hbq2⟩, hRes⟩ | ⟨hne, hRes⟩
            · exact .inl ⟨e0, dp1, L1, nq, bq, cq, bsq, csq, hv, hDq, hlq, hcq, dr_keep27 hRq h3.ext hx6 (by have hh := hbq2; rw [World.size_alloc] at hh; omega), Nat.le_trans hs5 (Nat.le_trans (Ext.alloc [] w5 (.cells #[.int .i64 0, .slice none 0 0, .slice none 0 0] 27)).size hbq2), hRes⟩
            · exact .inr ⟨hne, hRes⟩
          clear h3 hx6 x0 x1 x2 y0 y1 y2 hzx hset hzx1 hzx2
          have hxb7 := hC7.keep HXb.out (by simp)
          have j1 : w7.cell? ⟨zo, 1, none⟩ = some (.int .u64 (xh : Nat)) := by rw [cell_of_row _ _ _ _ _ _ hxb7]; rfl
          have j2 : w7.cell? ⟨zo, 2, none⟩ = some (.int .u64 (xd : Nat)) := by rw [cell_of_row _ _ _ _ _ _ hxb7]; rfl
          have hRd7 := HRd.out.keep0 hC7
          have hz7 := hC7.keep HRow.out (by simp)
          have KD := rins_g pd qd cd dp xh xd L R HD.out HG.out hxh hxd w w7 (HextU.out.trans hC7) HLo.out hRd7
          have hfU := foot_lt HRd.out
          have hs7 : U0.heap.size ≤ w7.heap.size := hC7.size
          have HC7 := hid hC7
          have HRd7 := hid hRd7
          have Hz7 := hid hz7
          have Hx7 := hid hx7
          have hUz := HUs.out
          have HSz := hid (show z < U0.heap.size ∧ bs < U0.heap.size by omega)
          clear hUz hxb7 hC7 hC6 hE5 hE5u hE6 hout hR5 hc5 KO KC f0 f1 f2 g0 g1 g2 d0 d1 d2 t0 t1 t2 hEd hz7 hx7 hRd7 HKeep hK0 hK1 hA1 HN1
          go_wp2_with fail
          refine KD.mono ?_
          clear KD
          rintro _ w8 ⟨bb, rfl, hE8, hF8, dp2, L2, qd2, cd2, R2, hRd8, hLo8, hNw8, hb8⟩
          have hz8 := hF8.keep Hz7.out (foot_ne HRd7.out Hz7.out (by decide))
          have hx8 := hF8.keep Hx7.out (foot_ne HRd7.out Hx7.out (by decide))
          have hs8 := hF8.size
          rcases HOut.out with ⟨rfl, dp1, L1, nq, bq, cq, bsq, csq, hv, hDq, hlq, hcq, hR7, hbq, hRes⟩ | ⟨hne, hRes⟩
          · obtain ⟨hbb, e1, e2⟩ := pl_both hRs.out (er := 0) (.inl ⟨rfl, hRes⟩) hb8
            subst e1 e2
            obtain rfl : bb = true := by rw [hbb]; rfl
            unfold dv at hv
            simp only [Value.agg.injEq, Array.mk.injEq, List.cons.injEq, Value.int.injEq, true_and, Value.slice.injEq, and_true] at hv
            obtain ⟨e1, ⟨e2, e3, e4⟩, e5, e6, e7⟩ := hv
            subst e1 e2 e3 e4 e5 e6 e7
            have hnx := hRs.out.nxt _ _ hRes
            obtain ⟨v0, v1, v2⟩ := cells3 hx8
            obtain ⟨r0, r1, r2⟩ := cells3 hz8
            generalize hmq : 2 ^ dp1 = mq at *
            obtain ⟨h9, q0, q1, q2⟩ := s3_of hz8 (.int .i64 (dp1 : Nat)) (.slice (some ⟨bq, 0, none⟩) qn qc) (.slice (some ⟨bsq, 0, none⟩) mq rc)
            have HF : Hid (PlI w z pd (((w8.setCell ⟨z, 0, none⟩ (.int .i64 (dp1 : Nat))).setCell ⟨z, 1, none⟩ (.slice (some ⟨bq, 0, none⟩) qn qc)).setCell ⟨z, 2, none⟩ (.slice (some ⟨bsq, 0, none⟩) mq rc))) := by
              have hsz := HSz.out
              have hbf7 : bsq ∉ foot pd R := fun hm => by have := hfU _ hm; omega
              have hbl7 := dr_lt hDq hR7
              have hR8 := dr_foot hR7 HRd7.out hF8 hbf7
              have hbz2 : bsq ≠ z := by omega
              have hs9 := h9.ext.size
              exact ⟨⟨dp1, qn, bq, qc, bsq, rc, L1, qd2, cd2, R2, by rw [hmq]; exact h9.row, hDq, hnx.2, hlq, by rw [hmq]; exact hcq, dr_keep27 hR8 h9.ext hz8 hbz2, rd_keep27 hRd8 h9.ext hz8, hLo8, nf_step hNw8 hbf7 hbl7, by omega, hbz2⟩, hE8.on h9.ext (by simpa using hwz)⟩
            clear h9 hz8 hx8 hDq hRes hb8 hNw8 hLo8 hRd8 hF8 hE8 hnx hmq hbb HOut hR7 hlq hcq
            go_wp2_with fail
            go_roundw
            case rel => exact ⟨k + 1, by go_num, by omega, HF.out⟩
            case measure => simp [intOf]; omega
          · obtain ⟨hbb, e1, e2⟩ := pl_both hRs.out (dp1 := dp) (L1 := L) (.inr ⟨hne, hRes, rfl, rfl⟩) hb8
            subst e1 e2
            have he0 : (er == 0) = false := by simpa using hne
            obtain rfl : bb = false := by rw [hbb]; exact he0
            have HF : Hid (PlI w z pd w8) := by
              have hsz := HSz.out
              have hR8 := dr_foot (HR.out.keep0 HC7.out) HRd7.out hF8 hbf
              exact ⟨⟨dp, n', bt, ct, bs, cs, L, qd2, cd2, R2, by rw [hm']; exact hz8, HD.out, HG.out, HLn.out, hcs, hR8, hRd8, hLo8, nf_step hNw8 hbf (by omega), by omega, hbz⟩, hE8⟩
            clear hz8 hx8 hRes hb8 hNw8 hLo8 hRd8 hF8 hE8 hbb HOut
            go_wp2_with fail
            go_roundw
            case rel => exact ⟨k + 1, by go_num, by omega, HF.out⟩
            case measure => simp [intOf]; omega
        · obtain ⟨zx, hzx⟩ : ∃ zx, U0.heap.size = zx := ⟨_, rfl⟩
          rw [hzx] at h3 hx6
          try simp only [hzx]
          obtain ⟨w7, hw7⟩ : ∃ w7, ((w6.setCell ⟨zx, 0, none⟩ (.int .i64 P)).setCell ⟨zx, 1, none⟩ (.slice qa qn qc)).setCell ⟨zx, 2, none⟩ (.slice ra rn rc) = w7 := ⟨_, rfl⟩
          rw [hw7] at h3
          try rw [hw7]
          clear hw7
          have hx7 := h3.row
          have hU5 : U0.heap.size ≤ w5.heap.size := hs5
          have hzxU : U0.heap.size ≤ zx := by omega
          have hC7 : Ext [] U0 w7 := (hEd.trans hC6).on h3.ext (by simpa using hzxU)
          have HOut : Hid ((er = 0 ∧ ∃ dp1 L1 nq bq cq bsq csq, Value.agg #[.int .i64 P, .slice qa qn qc, .slice ra rn rc] = dv dp1 bq nq cq bsq 0 (2 ^ dp1) csq ∧ Dq dp1 L1 ∧ L1.length = nq ∧ 2 ^ dp1 ≤ csq ∧ Dr w7 bq bsq 0 dp1 L1 ∧ U0.heap.size ≤ bsq ∧ InsD xh xd dp L (some (dp1, L1))) ∨ (er ≠ 0 ∧ InsD xh xd dp L none)) := by
            rcases hout with ⟨e0, dp1, L1, ⟨nq, bq, cq, bsq, csq, hv, hDq, hlq, hcq, hRq, hbq1, hbq2⟩, hRes⟩ | ⟨hne, hRes⟩
            · exact .inl ⟨e0, dp1, L1, nq, bq, cq, bsq, csq, hv, hDq, hlq, hcq, dr_keep27 hRq h3.ext hx6 (by have hh : U0.heap.size < w5.heap.size := lt_of_heap ((show Ext [] (U0.alloc (.cells #[.int .i64 0, .slice none 0 0, .slice none 0 0] 27)).drew w5 by with_reducible exact hE5).keep HN1.out (by simp)); omega), Nat.le_trans hs5 hbq2, hRes⟩
            · exact .inr ⟨hne, hRes⟩
          clear h3 hx6 x0 x1 x2 y0 y1 y2 hzx hset hzx1 hzx2
          have hxb7 := hC7.keep HXb.out (by simp)
          have j1 : w7.cell? ⟨zo, 1, none⟩ = some (.int .u64 (xh : Nat)) := by rw [cell_of_row _ _ _ _ _ _ hxb7]; rfl
          have j2 : w7.cell? ⟨zo, 2, none⟩ = some (.int .u64 (xd : Nat)) := by rw [cell_of_row _ _ _ _ _ _ hxb7]; rfl
          have hRd7 := HRd.out.keep0 hC7
          have hz7 := hC7.keep HRow.out (by simp)
          have KD := rins_g pd qd cd dp xh xd L R HD.out HG.out hxh hxd w w7 (HextU.out.trans hC7) HLo.out hRd7
          have hfU := foot_lt HRd.out
          have hs7 : U0.heap.size ≤ w7.heap.size := hC7.size
          have HC7 := hid hC7
          have HRd7 := hid hRd7
          have Hz7 := hid hz7
          have Hx7 := hid hx7
          have hUz := HUs.out
          have HSz := hid (show z < U0.heap.size ∧ bs < U0.heap.size by omega)
          clear hUz hxb7 hC7 hC6 hE5 hE5u hE6 hout hR5 hc5 KO KC f0 f1 f2 g0 g1 g2 d0 d1 d2 t0 t1 t2 hEd hz7 hx7 hRd7 HKeep hK0 hK1 hA1 HN1
          go_wp2_with fail
          refine KD.mono ?_
          clear KD
          rintro _ w8 ⟨bb, rfl, hE8, hF8, dp2, L2, qd2, cd2, R2, hRd8, hLo8, hNw8, hb8⟩
          have hz8 := hF8.keep Hz7.out (foot_ne HRd7.out Hz7.out (by decide))
          have hx8 := hF8.keep Hx7.out (foot_ne HRd7.out Hx7.out (by decide))
          have hs8 := hF8.size
          rcases HOut.out with ⟨rfl, dp1, L1, nq, bq, cq, bsq, csq, hv, hDq, hlq, hcq, hR7, hbq, hRes⟩ | ⟨hne, hRes⟩
          · obtain ⟨hbb, e1, e2⟩ := pl_both hRs.out (er := 0) (.inl ⟨rfl, hRes⟩) hb8
            subst e1 e2
            obtain rfl : bb = true := by rw [hbb]; rfl
            unfold dv at hv
            simp only [Value.agg.injEq, Array.mk.injEq, List.cons.injEq, Value.int.injEq, true_and, Value.slice.injEq, and_true] at hv
            obtain ⟨e1, ⟨e2, e3, e4⟩, e5, e6, e7⟩ := hv
            subst e1 e2 e3 e4 e5 e6 e7
            have hnx := hRs.out.nxt _ _ hRes
            obtain ⟨v0, v1, v2⟩ := cells3 hx8
            obtain ⟨r0, r1, r2⟩ := cells3 hz8
            generalize hmq : 2 ^ dp1 = mq at *
            obtain ⟨h9, q0, q1, q2⟩ := s3_of hz8 (.int .i64 (dp1 : Nat)) (.slice (some ⟨bq, 0, none⟩) qn qc) (.slice (some ⟨bsq, 0, none⟩) mq rc)
            have HF : Hid (PlI w z pd (((w8.setCell ⟨z, 0, none⟩ (.int .i64 (dp1 : Nat))).setCell ⟨z, 1, none⟩ (.slice (some ⟨bq, 0, none⟩) qn qc)).setCell ⟨z, 2, none⟩ (.slice (some ⟨bsq, 0, none⟩) mq rc))) := by
              have hsz := HSz.out
              have hbf7 : bsq ∉ foot pd R := fun hm => by have := hfU _ hm; omega
              have hbl7 := dr_lt hDq hR7
              have hR8 := dr_foot hR7 HRd7.out hF8 hbf7
              have hbz2 : bsq ≠ z := by omega
              have hs9 := h9.ext.size
              exact ⟨⟨dp1, qn, bq, qc, bsq, rc, L1, qd2, cd2, R2, by rw [hmq]; exact h9.row, hDq, hnx.2, hlq, by rw [hmq]; exact hcq, dr_keep27 hR8 h9.ext hz8 hbz2, rd_keep27 hRd8 h9.ext hz8, hLo8, nf_step hNw8 hbf7 hbl7, by omega, hbz2⟩, hE8.on h9.ext (by simpa using hwz)⟩
            clear h9 hz8 hx8 hDq hRes hb8 hNw8 hLo8 hRd8 hF8 hE8 hnx hmq hbb HOut hR7 hlq hcq
            go_wp2_with fail
            go_roundw
            case rel => exact ⟨k + 1, by go_num, by omega, HF.out⟩
            case measure => simp [intOf]; omega
          · obtain ⟨hbb, e1, e2⟩ := pl_both hRs.out (dp1 := dp) (L1 := L) (.inr ⟨hne, hRes, rfl, rfl⟩) hb8
            subst e1 e2
            have he0 : (er == 0) = false := by simpa using hne
            obtain rfl : bb = false := by rw [hbb]; exact he0
            have HF : Hid (PlI w z pd w8) := by
              have hsz := HSz.out
              have hR8 := dr_foot (HR.out.keep0 HC7.out) HRd7.out hF8 hbf
              exact ⟨⟨dp, n', bt, ct, bs, cs, L, qd2, cd2, R2, by rw [hm']; exact hz8, HD.out, HG.out, HLn.out, hcs, hR8, hRd8, hLo8, nf_step hNw8 hbf (by omega), by omega, hbz⟩, hE8⟩
            clear hz8 hx8 hRes hb8 hNw8 hLo8 hRd8 hF8 hE8 hbb HOut
            go_wp2_with fail
            go_roundw
            case rel => exact ⟨k + 1, by go_num, by omega, HF.out⟩
            case measure => simp [intOf]; omega
      · have KO := fun v (hv : Ext [] U0 v) btc ctc bsc csc (hc : 2 ^ dp ≤ csc) (hRc : Dr v btc bsc 0 dp L) => del_g dp btc ctc bsc 0 csc n' xh xd L HD.out hc HLn.out hxh hxd v hRc ((HTb.out.keep0 HextU.out).keep0 hv)
        have hRs := hid (rsn_del HD.out HG.out : Rsn dp L (ResD xh xd dp L))
        unfold dv at KO
        rw [hm'] at KO
        go_wp2_with fail
        go_region_held3 (fun w' => w'.cell? ⟨z, 0, none⟩ = some (.int .i64 (dp : Nat)) ∧ w'.cell? ⟨z, 1, none⟩ = some (.slice (some ⟨bt, 0, none⟩) n' ct) ∧ w'.cell? ⟨z, 2, none⟩ = some (.slice (some ⟨bs, 0, none⟩) m' cs) ∧ w'.cell? ⟨zo, 1, none⟩ = some (.int .u64 (xh : Nat)) ∧ w'.cell? ⟨zo, 2, none⟩ = some (.int .u64 (xd : Nat)))
          (first | with_reducible exact hK0 | with_reducible exact HKeep.out _ hC6 | with_reducible exact HKeep.out _ hE5u | with_reducible exact hK1 | with_reducible exact HKeep.out _ (hE5u.trans (Ext.alloc [] w5 _)) | with_reducible exact HKeep.out _ (hC6.trans (Ext.alloc [] w6 _)) | with_reducible exact hset | fail "no keep")
          (first
            | (go_at_call 15; refine (KC _ (by first | with_reducible exact Ext.refl [] _ | with_reducible exact hA1)).mono ?_; rintro _ w5 ⟨btc, ctc, bsc, csc, hvc, hR5, hc5, _, _, hE5⟩; unfold dv at hvc; rw [hm'] at hvc; subst hvc; have hE5u : Ext [] U0.drew w5 := (by first | with_reducible exact hE5 | with_reducible exact hA1.trans hE5))
            | (go_at_call 14; refine (KO _ (by first | with_reducible exact hEd.trans hE5u | with_reducible exact (hEd.trans hE5u).trans (Ext.alloc [] _ _)) btc ctc bsc csc (by rw [← hm']; exact hc5) (by first | with_reducible exact hR5 | with_reducible exact hR5.keep0 (Ext.alloc [] _ _))).mono ?_; rintro _ w6 ⟨P, qa, qn, qc, ra, rn, rc, er, rfl, hE6, hout⟩; have hC6 : Ext [] U0.drew w6 := hE5u.trans (by first | with_reducible exact hE6 | with_reducible exact (Ext.alloc [] _ _).trans hE6); have hs5 := hE5u.size; (first | (have hx6 := (show Ext [] (w5.alloc (.cells #[.int .i64 0, .slice none 0 0, .slice none 0 0] 27)) w6 by with_reducible exact hE6).keep (heap_alloc_new w5 (.cells #[.int .i64 0, .slice none 0 0, .slice none 0 0] 27)) (by simp); obtain ⟨y0, y1, y2⟩ := cells3 hx6; obtain ⟨h3, x0, x1, x2⟩ := s3_of hx6 (.int .i64 P) (.slice qa qn qc) (.slice ra rn rc); have hzx1 : z ∉ [w5.heap.size] := (by have hq := HUs.out; have hq5 : U0.heap.size ≤ w5.heap.size := hs5; simp; omega); have hzx2 : zo ∉ [w5.heap.size] := (by have hq := HUs.out; have hq5 : U0.heap.size ≤ w5.heap.size := hs5; simp; omega); have hK6 := HKeep.out _ hC6; have hset : (((w6.setCell ⟨w5.heap.size, 0, none⟩ (.int .i64 P)).setCell ⟨w5.heap.size, 1, none⟩ (.slice qa qn qc)).setCell ⟨w5.heap.size, 2, none⟩ (.slice ra rn rc)).cell? ⟨z, 0, none⟩ = some (.int .i64 (dp : Nat)) ∧ (((w6.setCell ⟨w5.heap.size, 0, none⟩ (.int .i64 P)).setCell ⟨w5.heap.size, 1, none⟩ (.slice qa qn qc)).setCell ⟨w5.heap.size, 2, none⟩ (.slice ra rn rc)).cell? ⟨z, 1, none⟩ = some (.slice (some ⟨bt, 0, none⟩) n' ct) ∧ (((w6.setCell ⟨w5.heap.size, 0, none⟩ (.int .i64 P)).setCell ⟨w5.heap.size, 1, none⟩ (.slice qa qn qc)).setCell ⟨w5.heap.size, 2, none⟩ (.slice ra rn rc)).cell? ⟨z, 2, none⟩ = some (.slice (some ⟨bs, 0, none⟩) m' cs) ∧ (((w6.setCell ⟨w5.heap.size, 0, none⟩ (.int .i64 P)).setCell ⟨w5.heap.size, 1, none⟩ (.slice qa qn qc)).setCell ⟨w5.heap.size, 2, none⟩ (.slice ra rn rc)).cell? ⟨zo, 1, none⟩ = some (.int .u64 (xh : Nat)) ∧ (((w6.setCell ⟨w5.heap.size, 0, none⟩ (.int .i64 P)).setCell ⟨w5.heap.size, 1, none⟩ (.slice qa qn qc)).setCell ⟨w5.heap.size, 2, none⟩ (.slice ra rn rc)).cell? ⟨zo, 2, none⟩ = some (.int .u64 (xd : Nat)) := ⟨h3.ext.cell hK6.1 hzx1, h3.ext.cell hK6.2.1 hzx1, h3.ext.cell hK6.2.2.1 hzx1, h3.ext.cell hK6.2.2.2.1 hzx2, h3.ext.cell hK6.2.2.2.2 hzx2⟩) | (have hx6 := (show Ext [] w5 w6 by with_reducible exact hE6).keep ((show Ext [] (U0.alloc (.cells #[.int .i64 0, .slice none 0 0, .slice none 0 0] 27)).drew w5 by with_reducible exact hE5).keep HN1.out (by simp)) (by simp); obtain ⟨y0, y1, y2⟩ := cells3 hx6; obtain ⟨h3, x0, x1, x2⟩ := s3_of hx6 (.int .i64 P) (.slice qa qn qc) (.slice ra rn rc); have hzx1 : z ∉ [U0.heap.size] := (by have hq := HUs.out; have hq5 : U0.heap.size ≤ w5.heap.size := hs5; simp; omega); have hzx2 : zo ∉ [U0.heap.size] := (by have hq := HUs.out; have hq5 : U0.heap.size ≤ w5.heap.size := hs5; simp; omega); have hK6 := HKeep.out _ hC6; have hset : (((w6.setCell ⟨U0.heap.size, 0, none⟩ (.int .i64 P)).setCell ⟨U0.heap.size, 1, none⟩ (.slice qa qn qc)).setCell ⟨U0.heap.size, 2, none⟩ (.slice ra rn rc)).cell? ⟨z, 0, none⟩ = some (.int .i64 (dp : Nat)) ∧ (((w6.setCell ⟨U0.heap.size, 0, none⟩ (.int .i64 P)).setCell ⟨U0.heap.size, 1, none⟩ (.slice qa qn qc)).setCell ⟨U0.heap.size, 2, none⟩ (.slice ra rn rc)).cell? ⟨z, 1, none⟩ = some (.slice (some ⟨bt, 0, none⟩) n' ct) ∧ (((w6.setCell ⟨U0.heap.size, 0, none⟩ (.int .i64 P)).setCell ⟨U0.heap.size, 1, none⟩ (.slice qa qn qc)).setCell ⟨U0.heap.size, 2, none⟩ (.slice ra rn rc)).cell? ⟨z, 2, none⟩ = some (.slice (some ⟨bs, 0, none⟩) m' cs) ∧ (((w6.setCell ⟨U0.heap.size, 0, none⟩ (.int .i64 P)).setCell ⟨U0.heap.size, 1, none⟩ (.slice qa qn qc)).setCell ⟨U0.heap.size, 2, none⟩ (.slice ra rn rc)).cell? ⟨zo, 1, none⟩ = some (.int .u64 (xh : Nat)) ∧ (((w6.setCell ⟨U0.heap.size, 0, none⟩ (.int .i64 P)).setCell ⟨U0.heap.size, 1, none⟩ (.slice qa qn qc)).setCell ⟨U0.heap.size, 2, none⟩ (.slice ra rn rc)).cell? ⟨zo, 2, none⟩ = some (.int .u64 (xd : Nat)) := ⟨h3.ext.cell hK6.1 hzx1, h3.ext.cell hK6.2.1 hzx1, h3.ext.cell hK6.2.2.1 hzx1, h3.ext.cell hK6.2.2.2.1 hzx2, h3.ext.cell hK6.2.2.2.2 hzx2⟩) | skip))
            | fail "no arm")
        · obtain ⟨zx, hzx⟩ : ∃ zx, w6.heap.size = zx := ⟨_, rfl⟩
          have hx7 := heap_alloc_new w6 (.cells #[.int .i64 P, .slice qa qn qc, .slice ra rn rc] 27)
          have hE7 := Ext.alloc [] w6 (.cells #[.int .i64 P, .slice qa qn qc, .slice ra rn rc] 27)
          obtain ⟨w7, hw7⟩ : ∃ w7, w6.alloc (.cells #[.int .i64 P, .slice qa qn qc, .slice ra rn rc] 27) = w7 := ⟨_, rfl⟩
          rw [hw7] at hx7 hE7
          rw [hzx] at hx7
          try rw [hw7]
          try simp only [hzx]
          clear hw7
          have hC7 : Ext [] U0 w7 := (hEd.trans hC6).trans hE7
          have HOut : Hid ((er = 0 ∧ ∃ dp1 L1 nq bq cq bsq csq, Value.agg #[.int .i64 P, .slice qa qn qc, .slice ra rn rc] = dv dp1 bq nq cq bsq 0 (2 ^ dp1) csq ∧ Dq dp1 L1 ∧ L1.length = nq ∧ 2 ^ dp1 ≤ csq ∧ Dr w7 bq bsq 0 dp1 L1 ∧ U0.heap.size ≤ bsq ∧ ResD xh xd dp L (some (dp1, L1))) ∨ (er ≠ 0 ∧ ResD xh xd dp L none)) := by
            rcases hout with ⟨e0, dp1, L1, ⟨nq, bq, cq, bsq, csq, hv, hDq, hlq, hcq, hRq, hbq1, hbq2⟩, hRes⟩ | ⟨hne, hRes⟩
            · exact .inl ⟨e0, dp1, L1, nq, bq, cq, bsq, csq, hv, hDq, hlq, hcq, hRq.keep0 hE7, Nat.le_trans hs5 hbq2, hRes⟩
            · exact .inr ⟨hne, hRes⟩
          clear hE7 hzx
          have hxb7 := hC7.keep HXb.out (by simp)
          have j1 : w7.cell? ⟨zo, 1, none⟩ = some (.int .u64 (xh : Nat)) := by rw [cell_of_row _ _ _ _ _ _ hxb7]; rfl
          have j2 : w7.cell? ⟨zo, 2, none⟩ = some (.int .u64 (xd : Nat)) := by rw [cell_of_row _ _ _ _ _ _ hxb7]; rfl
          have hRd7 := HRd.out.keep0 hC7
          have hz7 := hC7.keep HRow.out (by simp)
          have KD := rdel_g pd qd cd dp xh xd L R HD.out hxh w w7 (HextU.out.trans hC7) HLo.out hRd7
          have hfU := foot_lt HRd.out
          have hs7 : U0.heap.size ≤ w7.heap.size := hC7.size
          have HC7 := hid hC7
          have HRd7 := hid hRd7
          have Hz7 := hid hz7
          have Hx7 := hid hx7
          have hUz := HUs.out
          have HSz := hid (show z < U0.heap.size ∧ bs < U0.heap.size by omega)
          clear hUz hxb7 hC7 hC6 hE5 hE5u hE6 hout hR5 hc5 KO KC f0 f1 f2 g0 g1 g2 d0 d1 d2 t0 t1 t2 hEd hz7 hx7 hRd7 HKeep hK0 hK1 hA1 HN1
          go_wp2_with fail
          refine KD.mono ?_
          clear KD
          rintro _ w8 ⟨bb, rfl, hE8, hF8, dp2, L2, qd2, cd2, R2, hRd8, hLo8, hNw8, hb8⟩
          have hz8 := hF8.keep Hz7.out (foot_ne HRd7.out Hz7.out (by decide))
          have hx8 := hF8.keep Hx7.out (foot_ne HRd7.out Hx7.out (by decide))
          have hs8 := hF8.size
          rcases HOut.out with ⟨rfl, dp1, L1, nq, bq, cq, bsq, csq, hv, hDq, hlq, hcq, hR7, hbq, hRes⟩ | ⟨hne, hRes⟩
          · obtain ⟨hbb, e1, e2⟩ := pl_both hRs.out (er := 0) (.inl ⟨rfl, hRes⟩) hb8
            subst e1 e2
            obtain rfl : bb = true := by rw [hbb]; rfl
            unfold dv at hv
            simp only [Value.agg.injEq, Array.mk.injEq, List.cons.injEq, Value.int.injEq, true_and, Value.slice.injEq, and_true] at hv
            obtain ⟨e1, ⟨e2, e3, e4⟩, e5, e6, e7⟩ := hv
            subst e1 e2 e3 e4 e5 e6 e7
            have hnx := hRs.out.nxt _ _ hRes
            obtain ⟨v0, v1, v2⟩ := cells3 hx8
            obtain ⟨r0, r1, r2⟩ := cells3 hz8
            generalize hmq : 2 ^ dp1 = mq at *
            obtain ⟨h9, q0, q1, q2⟩ := s3_of hz8 (.int .i64 (dp1 : Nat)) (.slice (some ⟨bq, 0, none⟩) qn qc) (.slice (some ⟨bsq, 0, none⟩) mq rc)
            have HF : Hid (PlI w z pd (((w8.setCell ⟨z, 0, none⟩ (.int .i64 (dp1 : Nat))).setCell ⟨z, 1, none⟩ (.slice (some ⟨bq, 0, none⟩) qn qc)).setCell ⟨z, 2, none⟩ (.slice (some ⟨bsq, 0, none⟩) mq rc))) := by
              have hsz := HSz.out
              have hbf7 : bsq ∉ foot pd R := fun hm => by have := hfU _ hm; omega
              have hbl7 := dr_lt hDq hR7
              have hR8 := dr_foot hR7 HRd7.out hF8 hbf7
              have hbz2 : bsq ≠ z := by omega
              have hs9 := h9.ext.size
              exact ⟨⟨dp1, qn, bq, qc, bsq, rc, L1, qd2, cd2, R2, by rw [hmq]; exact h9.row, hDq, hnx.2, hlq, by rw [hmq]; exact hcq, dr_keep27 hR8 h9.ext hz8 hbz2, rd_keep27 hRd8 h9.ext hz8, hLo8, nf_step hNw8 hbf7 hbl7, by omega, hbz2⟩, hE8.on h9.ext (by simpa using hwz)⟩
            clear h9 hz8 hx8 hDq hRes hb8 hNw8 hLo8 hRd8 hF8 hE8 hnx hmq hbb HOut hR7 hlq hcq
            go_wp2_with fail
            go_roundw
            case rel => exact ⟨k + 1, by go_num, by omega, HF.out⟩
            case measure => simp [intOf]; omega
          · obtain ⟨hbb, e1, e2⟩ := pl_both hRs.out (dp1 := dp) (L1 := L) (.inr ⟨hne, hRes, rfl, rfl⟩) hb8
            subst e1 e2
            have he0 : (er == 0) = false := by simpa using hne
            obtain rfl : bb = false := by rw [hbb]; exact he0
            have HF : Hid (PlI w z pd w8) := by
              have hsz := HSz.out
              have hR8 := dr_foot (HR.out.keep0 HC7.out) HRd7.out hF8 hbf
              exact ⟨⟨dp, n', bt, ct, bs, cs, L, qd2, cd2, R2, by rw [hm']; exact hz8, HD.out, HG.out, HLn.out, hcs, hR8, hRd8, hLo8, nf_step hNw8 hbf (by omega), by omega, hbz⟩, hE8⟩
            clear hz8 hx8 hRes hb8 hNw8 hLo8 hRd8 hF8 hE8 hbb HOut
            go_wp2_with fail
            go_roundw
            case rel => exact ⟨k + 1, by go_num, by omega, HF.out⟩
            case measure => simp [intOf]; omega
        · obtain ⟨zx, hzx⟩ : ∃ zx, w5.heap.size = zx := ⟨_, rfl⟩
          rw [hzx] at h3 hx6
          try simp only [hzx]
          obtain ⟨w7, hw7⟩ : ∃ w7, ((w6.setCell ⟨zx, 0, none⟩ (.int .i64 P)).setCell ⟨zx, 1, none⟩ (.slice qa qn qc)).setCell ⟨zx, 2, none⟩ (.slice ra rn rc) = w7 := ⟨_, rfl⟩
          rw [hw7] at h3
          try rw [hw7]
          clear hw7
          have hx7 := h3.row
          have hU5 : U0.heap.size ≤ w5.heap.size := hs5
          have hzxU : U0.heap.size ≤ zx := by omega
          have hC7 : Ext [] U0 w7 := (hEd.trans hC6).on h3.ext (by simpa using hzxU)
          have HOut : Hid ((er = 0 ∧ ∃ dp1 L1 nq bq cq bsq csq, Value.agg #[.int .i64 P, .slice qa qn qc, .slice ra rn rc] = dv dp1 bq nq cq bsq 0 (2 ^ dp1) csq ∧ Dq dp1 L1 ∧ L1.length = nq ∧ 2 ^ dp1 ≤ csq ∧ Dr w7 bq bsq 0 dp1 L1 ∧ U0.heap.size ≤ bsq ∧ ResD xh xd dp L (some (dp1, L1))) ∨ (er ≠ 0 ∧ ResD xh xd dp L none)) := by
            rcases hout with ⟨e0, dp1, L1, ⟨nq, bq, cq, bsq, csq, hv, hDq, hlq, hcq, hRq, hbq1, hbq2⟩, hRes⟩ | ⟨hne, hRes⟩
            · exact .inl ⟨e0, dp1, L1, nq, bq, cq, bsq, csq, hv, hDq, hlq, hcq, dr_keep27 hRq h3.ext hx6 (by have hh := hbq2; rw [World.size_alloc] at hh; omega), Nat.le_trans hs5 (Nat.le_trans (Ext.alloc [] w5 (.cells #[.int .i64 0, .slice none 0 0, .slice none 0 0] 27)).size hbq2), hRes⟩
            · exact .inr ⟨hne, hRes⟩
          clear h3 hx6 x0 x1 x2 y0 y1 y2 hzx hset hzx1 hzx2
          have hxb7 := hC7.keep HXb.out (by simp)
          have j1 : w7.cell? ⟨zo, 1, none⟩ = some (.int .u64 (xh : Nat)) := by rw [cell_of_row _ _ _ _ _ _ hxb7]; rfl
          have j2 : w7.cell? ⟨zo, 2, none⟩ = some (.int .u64 (xd : Nat)) := by rw [cell_of_row _ _ _ _ _ _ hxb7]; rfl
          have hRd7 := HRd.out.keep0 hC7
          have hz7 := hC7.keep HRow.out (by simp)
          have KD := rdel_g pd qd cd dp xh xd L R HD.out hxh w w7 (HextU.out.trans hC7) HLo.out hRd7
          have hfU := foot_lt HRd.out
          have hs7 : U0.heap.size ≤ w7.heap.size := hC7.size
          have HC7 := hid hC7
          have HRd7 := hid hRd7
          have Hz7 := hid hz7
          have Hx7 := hid hx7
          have hUz := HUs.out
          have HSz := hid (show z < U0.heap.size ∧ bs < U0.heap.size by omega)
          clear hUz hxb7 hC7 hC6 hE5 hE5u hE6 hout hR5 hc5 KO KC f0 f1 f2 g0 g1 g2 d0 d1 d2 t0 t1 t2 hEd hz7 hx7 hRd7 HKeep hK0 hK1 hA1 HN1
          go_wp2_with fail
          refine KD.mono ?_
          clear KD
          rintro _ w8 ⟨bb, rfl, hE8, hF8, dp2, L2, qd2, cd2, R2, hRd8, hLo8, hNw8, hb8⟩
          have hz8 := hF8.keep Hz7.out (foot_ne HRd7.out Hz7.out (by decide))
          have hx8 := hF8.keep Hx7.out (foot_ne HRd7.out Hx7.out (by decide))
          have hs8 := hF8.size
          rcases HOut.out with ⟨rfl, dp1, L1, nq, bq, cq, bsq, csq, hv, hDq, hlq, hcq, hR7, hbq, hRes⟩ | ⟨hne, hRes⟩
          · obtain ⟨hbb, e1, e2⟩ := pl_both hRs.out (er := 0) (.inl ⟨rfl, hRes⟩) hb8
            subst e1 e2
            obtain rfl : bb = true := by rw [hbb]; rfl
            unfold dv at hv
            simp only [Value.agg.injEq, Array.mk.injEq, List.cons.injEq, Value.int.injEq, true_and, Value.slice.injEq, and_true] at hv
            obtain ⟨e1, ⟨e2, e3, e4⟩, e5, e6, e7⟩ := hv
            subst e1 e2 e3 e4 e5 e6 e7
            have hnx := hRs.out.nxt _ _ hRes
            obtain ⟨v0, v1, v2⟩ := cells3 hx8
            obtain ⟨r0, r1, r2⟩ := cells3 hz8
            generalize hmq : 2 ^ dp1 = mq at *
            obtain ⟨h9, q0, q1, q2⟩ := s3_of hz8 (.int .i64 (dp1 : Nat)) (.slice (some ⟨bq, 0, none⟩) qn qc) (.slice (some ⟨bsq, 0, none⟩) mq rc)
            have HF : Hid (PlI w z pd (((w8.setCell ⟨z, 0, none⟩ (.int .i64 (dp1 : Nat))).setCell ⟨z, 1, none⟩ (.slice (some ⟨bq, 0, none⟩) qn qc)).setCell ⟨z, 2, none⟩ (.slice (some ⟨bsq, 0, none⟩) mq rc))) := by
              have hsz := HSz.out
              have hbf7 : bsq ∉ foot pd R := fun hm => by have := hfU _ hm; omega
              have hbl7 := dr_lt hDq hR7
              have hR8 := dr_foot hR7 HRd7.out hF8 hbf7
              have hbz2 : bsq ≠ z := by omega
              have hs9 := h9.ext.size
              exact ⟨⟨dp1, qn, bq, qc, bsq, rc, L1, qd2, cd2, R2, by rw [hmq]; exact h9.row, hDq, hnx.2, hlq, by rw [hmq]; exact hcq, dr_keep27 hR8 h9.ext hz8 hbz2, rd_keep27 hRd8 h9.ext hz8, hLo8, nf_step hNw8 hbf7 hbl7, by omega, hbz2⟩, hE8.on h9.ext (by simpa using hwz)⟩
            clear h9 hz8 hx8 hDq hRes hb8 hNw8 hLo8 hRd8 hF8 hE8 hnx hmq hbb HOut hR7 hlq hcq
            go_wp2_with fail
            go_roundw
            case rel => exact ⟨k + 1, by go_num, by omega, HF.out⟩
            case measure => simp [intOf]; omega
          · obtain ⟨hbb, e1, e2⟩ := pl_both hRs.out (dp1 := dp) (L1 := L) (.inr ⟨hne, hRes, rfl, rfl⟩) hb8
            subst e1 e2
            have he0 : (er == 0) = false := by simpa using hne
            obtain rfl : bb = false := by rw [hbb]; exact he0
            have HF : Hid (PlI w z pd w8) := by
              have hsz := HSz.out
              have hR8 := dr_foot (HR.out.keep0 HC7.out) HRd7.out hF8 hbf
              exact ⟨⟨dp, n', bt, ct, bs, cs, L, qd2, cd2, R2, by rw [hm']; exact hz8, HD.out, HG.out, HLn.out, hcs, hR8, hRd8, hLo8, nf_step hNw8 hbf (by omega), by omega, hbz⟩, hE8⟩
            clear hz8 hx8 hRes hb8 hNw8 hLo8 hRd8 hF8 hE8 hbb HOut
            go_wp2_with fail
            go_roundw
            case rel => exact ⟨k + 1, by go_num, by omega, HF.out⟩
            case measure => simp [intOf]; omega
        · obtain ⟨zx, hzx⟩ : ∃ zx, U0.heap.size = zx := ⟨_, rfl⟩
          rw [hzx] at h3 hx6
          try simp only [hzx]
          obtain ⟨w7, hw7⟩ : ∃ w7, ((w6.setCell ⟨zx, 0, none⟩ (.int .i64 P)).setCell ⟨zx, 1, none⟩ (.slice qa qn qc)).setCell ⟨zx, 2, none⟩ (.slice ra rn rc) = w7 := ⟨_, rfl⟩
          rw [hw7] at h3
          try rw [hw7]
          clear hw7
          have hx7 := h3.row
          have hU5 : U0.heap.size ≤ w5.heap.size := hs5
          have hzxU : U0.heap.size ≤ zx := by omega
          have hC7 : Ext [] U0 w7 := (hEd.trans hC6).on h3.ext (by simpa using hzxU)
          have HOut : Hid ((er = 0 ∧ ∃ dp1 L1 nq bq cq bsq csq, Value.agg #[.int .i64 P, .slice qa qn qc, .slice ra rn rc] = dv dp1 bq nq cq bsq 0 (2 ^ dp1) csq ∧ Dq dp1 L1 ∧ L1.length = nq ∧ 2 ^ dp1 ≤ csq ∧ Dr w7 bq bsq 0 dp1 L1 ∧ U0.heap.size ≤ bsq ∧ ResD xh xd dp L (some (dp1, L1))) ∨ (er ≠ 0 ∧ ResD xh xd dp L none)) := by
            rcases hout with ⟨e0, dp1, L1, ⟨nq, bq, cq, bsq, csq, hv, hDq, hlq, hcq, hRq, hbq1, hbq2⟩, hRes⟩ | ⟨hne, hRes⟩
            · exact .inl ⟨e0, dp1, L1, nq, bq, cq, bsq, csq, hv, hDq, hlq, hcq, dr_keep27 hRq h3.ext hx6 (by have hh : U0.heap.size < w5.heap.size := lt_of_heap ((show Ext [] (U0.alloc (.cells #[.int .i64 0, .slice none 0 0, .slice none 0 0] 27)).drew w5 by with_reducible exact hE5).keep HN1.out (by simp)); omega), Nat.le_trans hs5 hbq2, hRes⟩
            · exact .inr ⟨hne, hRes⟩
          clear h3 hx6 x0 x1 x2 y0 y1 y2 hzx hset hzx1 hzx2
          have hxb7 := hC7.keep HXb.out (by simp)
          have j1 : w7.cell? ⟨zo, 1, none⟩ = some (.int .u64 (xh : Nat)) := by rw [cell_of_row _ _ _ _ _ _ hxb7]; rfl
          have j2 : w7.cell? ⟨zo, 2, none⟩ = some (.int .u64 (xd : Nat)) := by rw [cell_of_row _ _ _ _ _ _ hxb7]; rfl
          have hRd7 := HRd.out.keep0 hC7
          have hz7 := hC7.keep HRow.out (by simp)
          have KD := rdel_g pd qd cd dp xh xd L R HD.out hxh w w7 (HextU.out.trans hC7) HLo.out hRd7
          have hfU := foot_lt HRd.out
          have hs7 : U0.heap.size ≤ w7.heap.size := hC7.size
          have HC7 := hid hC7
          have HRd7 := hid hRd7
          have Hz7 := hid hz7
          have Hx7 := hid hx7
          have hUz := HUs.out
          have HSz := hid (show z < U0.heap.size ∧ bs < U0.heap.size by omega)
          clear hUz hxb7 hC7 hC6 hE5 hE5u hE6 hout hR5 hc5 KO KC f0 f1 f2 g0 g1 g2 d0 d1 d2 t0 t1 t2 hEd hz7 hx7 hRd7 HKeep hK0 hK1 hA1 HN1
          go_wp2_with fail
          refine KD.mono ?_
          clear KD
          rintro _ w8 ⟨bb, rfl, hE8, hF8, dp2, L2, qd2, cd2, R2, hRd8, hLo8, hNw8, hb8⟩
          have hz8 := hF8.keep Hz7.out (foot_ne HRd7.out Hz7.out (by decide))
          have hx8 := hF8.keep Hx7.out (foot_ne HRd7.out Hx7.out (by decide))
          have hs8 := hF8.size
          rcases HOut.out with ⟨rfl, dp1, L1, nq, bq, cq, bsq, csq, hv, hDq, hlq, hcq, hR7, hbq, hRes⟩ | ⟨hne, hRes⟩
          · obtain ⟨hbb, e1, e2⟩ := pl_both hRs.out (er := 0) (.inl ⟨rfl, hRes⟩) hb8
            subst e1 e2
            obtain rfl : bb = true := by rw [hbb]; rfl
            unfold dv at hv
            simp only [Value.agg.injEq, Array.mk.injEq, List.cons.injEq, Value.int.injEq, true_and, Value.slice.injEq, and_true] at hv
            obtain ⟨e1, ⟨e2, e3, e4⟩, e5, e6, e7⟩ := hv
            subst e1 e2 e3 e4 e5 e6 e7
            have hnx := hRs.out.nxt _ _ hRes
            obtain ⟨v0, v1, v2⟩ := cells3 hx8
            obtain ⟨r0, r1, r2⟩ := cells3 hz8
            generalize hmq : 2 ^ dp1 = mq at *
            obtain ⟨h9, q0, q1, q2⟩ := s3_of hz8 (.int .i64 (dp1 : Nat)) (.slice (some ⟨bq, 0, none⟩) qn qc) (.slice (some ⟨bsq, 0, none⟩) mq rc)
            have HF : Hid (PlI w z pd (((w8.setCell ⟨z, 0, none⟩ (.int .i64 (dp1 : Nat))).setCell ⟨z, 1, none⟩ (.slice (some ⟨bq, 0, none⟩) qn qc)).setCell ⟨z, 2, none⟩ (.slice (some ⟨bsq, 0, none⟩) mq rc))) := by
              have hsz := HSz.out
              have hbf7 : bsq ∉ foot pd R := fun hm => by have := hfU _ hm; omega
              have hbl7 := dr_lt hDq hR7
              have hR8 := dr_foot hR7 HRd7.out hF8 hbf7
              have hbz2 : bsq ≠ z := by omega
              have hs9 := h9.ext.size
              exact ⟨⟨dp1, qn, bq, qc, bsq, rc, L1, qd2, cd2, R2, by rw [hmq]; exact h9.row, hDq, hnx.2, hlq, by rw [hmq]; exact hcq, dr_keep27 hR8 h9.ext hz8 hbz2, rd_keep27 hRd8 h9.ext hz8, hLo8, nf_step hNw8 hbf7 hbl7, by omega, hbz2⟩, hE8.on h9.ext (by simpa using hwz)⟩
            clear h9 hz8 hx8 hDq hRes hb8 hNw8 hLo8 hRd8 hF8 hE8 hnx hmq hbb HOut hR7 hlq hcq
            go_wp2_with fail
            go_roundw
            case rel => exact ⟨k + 1, by go_num, by omega, HF.out⟩
            case measure => simp [intOf]; omega
          · obtain ⟨hbb, e1, e2⟩ := pl_both hRs.out (dp1 := dp) (L1 := L) (.inr ⟨hne, hRes, rfl, rfl⟩) hb8
            subst e1 e2
            have he0 : (er == 0) = false := by simpa using hne
            obtain rfl : bb = false := by rw [hbb]; exact he0
            have HF : Hid (PlI w z pd w8) := by
              have hsz := HSz.out
              have hR8 := dr_foot (HR.out.keep0 HC7.out) HRd7.out hF8 hbf
              exact ⟨⟨dp, n', bt, ct, bs, cs, L, qd2, cd2, R2, by rw [hm']; exact hz8, HD.out, HG.out, HLn.out, hcs, hR8, hRd8, hLo8, nf_step hNw8 hbf (by omega), by omega, hbz⟩, hE8⟩
            clear hz8 hx8 hRes hb8 hNw8 hLo8 hRd8 hF8 hE8 hbb HOut
            go_wp2_with fail
            go_roundw
            case rel => exact ⟨k + 1, by go_num, by omega, HF.out⟩
            case measure => simp [intOf]; omega
    · obtain rfl : k = n := by omega
      have KA := rapi_any pd qd cd dp n' L R hD hln wr.drew (hRd.keep0 (Ext.drew [] wr))
      have KS := fun u (hu : Ext [] wr u) bt2 ct2 bs2 cs2 (h2 : Dr u bt2 bs2 0 dp L) => sameDir_true dp bt ct bs 0 cs n' bt2 ct2 bs2 0 cs2 L hD hln u (hR.keep0 hu) h2
      unfold dv at KS
      rw [hm'] at KS
      have s0 : wr.drew.cell? ⟨z, 0, none⟩ = some (.int .i64 (dp : Nat)) := d0
      have s1 : wr.drew.cell? ⟨z, 1, none⟩ = some (.slice (some ⟨bt, 0, none⟩) n' ct) := d1
      have s2 : wr.drew.cell? ⟨z, 2, none⟩ = some (.slice (some ⟨bs, 0, none⟩) m' cs) := d2
      have HExt := hid hext
      clear hD hG hR hRd hLo hext hrow
      go_wp2_with fail
      go_region_held3 (fun w' => w'.cell? ⟨z, 0, none⟩ = some (.int .i64 (dp : Nat)) ∧ w'.cell? ⟨z, 1, none⟩ = some (.slice (some ⟨bt, 0, none⟩) n' ct) ∧ w'.cell? ⟨z, 2, none⟩ = some (.slice (some ⟨bs, 0, none⟩) m' cs))
        (first | exact ⟨(hE5.trans hE6).cell s0 (by simp), (hE5.trans hE6).cell s1 (by simp), (hE5.trans hE6).cell s2 (by simp)⟩ | exact ⟨hE5.cell s0 (by simp), hE5.cell s1 (by simp), hE5.cell s2 (by simp)⟩ | exact ⟨s0, s1, s2⟩ | go_keep)
        (first
          | (go_at_call 19; refine KA.mono ?_; rintro _ w5 ⟨btc, ctc, bsc, csc, hvc, hR5, hc5, _, _, hE5⟩; unfold dv at hvc; rw [hm'] at hvc; subst hvc)
          | (go_at_call 11; refine (KS w5 ((Ext.drew [] wr).trans hE5) btc ctc bsc csc hR5).mono ?_; rintro _ w6 ⟨rfl, hE6⟩)
          | fail "no arm")
      have HX := hid (((HExt.out.trans (Ext.drew [] wr)).trans hE5).trans hE6)
      clear s0 s1 s2 d0 d1 d2 KA KS hE5 hE6 hR5
      go_wp2_with fail
      go_ret
      exact ⟨rfl, HX.out⟩
end Go.Proofs.YtkfagfdefkaenaaDoor.Rf
