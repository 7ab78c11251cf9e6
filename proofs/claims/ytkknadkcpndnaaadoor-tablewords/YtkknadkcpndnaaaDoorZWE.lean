/-
  RfW, RfX: joined by program; no statement is proved here.
-/
import Derived.Test.YtkknadkcpndnaaaDoorZWD
import Derived.Test.YtkknadkcpndnaaaDoorZT
import Derived.Test.YtkknadkcpndnaaaDoorZWB
/-
  The law's alike, flat and Check; no statement is proved here.
-/
namespace Go.Proofs.YtkknadkcpndnaaaDoor.Rf
open Go.RowKit Go.Shelf
open Pr (Gp GpI sq)
attribute [local go_sem] Oper.semAt_some run_store_func

theorem check_true (a : Option Addr) (c : Nat) (T : List Nat) (G : Nat) (hS : Sd T G) (w : World) (hT : Wd w a T) :
    Calls Tryd.prog 11 #[.slice a (3 + 17 * G) c] w (SayPost w (.int .i64 0)) := by
  have K := sound_true a c T G hS w hT
  clear hT hS
  go_enter Tryd.func11, Tryd.ntmps11
  go_wp2_with fail
  refine K.mono ?_
  clear K
  rintro _ w1 ⟨rfl, hX⟩
  have HX := hid hX
  clear hX
  go_wp2
  go_ret
  exact ⟨rfl, HX.out⟩
set_option maxRecDepth 100000 in
set_option maxHeartbeats 4000000 in
theorem alike_ins (T : List Nat) (G b o c : Nat) (xa : Option Addr) (xn xc er : Nat) (k M : Int) (h d : Nat) (hS : Sd T G) (hh : h < 18446744073709551616) (hd : d < 18446744073709551616) (w : World) (hT : Wd w (some ⟨b, o, none⟩) T)
    (hres : (∃ T', InsT T G h d (some T') ∧ er = 0 ∧ xn = 3 + 17 * G ∧ Wd w xa T') ∨ (InsT T G h d none ∧ er = 7 ∧ xn = 0)) :
    Calls Tryd.prog 24 #[.slice xa xn xc, .int .u64 (er : Nat), .slice (some ⟨b, o, none⟩) (3 + 17 * G) c, .agg #[.int .i64 k, .int .i64 M, .int .u64 (h : Nat), .int .u64 (d : Nat)], .int .i64 100] w (SayPost w (.bool true)) := by
  have hG := hS.shp.gp.le
  obtain ⟨z, hz⟩ : ∃ z, w.heap.size = z := ⟨_, rfl⟩
  obtain ⟨W0, hW0⟩ : ∃ W0, w.alloc (.cells #[.int .i64 k, .int .i64 M, .int .u64 (h : Nat), .int .u64 (d : Nat)] 25) = W0 := ⟨_, rfl⟩
  have hro : W0.heap[z]? = some (.cells #[.int .i64 k, .int .i64 M, .int .u64 (h : Nat), .int .u64 (d : Nat)] 25 (0, 0)) := by rw [← hW0, ← hz]; exact heap_alloc_new w _
  have hE0 : Ext [] w W0 := by rw [← hW0]; exact Ext.alloc [] w _
  have hsm : W0.cell? ⟨z, 1, none⟩ = some (.int .i64 M) := by rw [cell_of_row _ _ _ _ _ _ hro]; rfl
  have hsh : W0.cell? ⟨z, 2, none⟩ = some (.int .u64 (h : Nat)) := by rw [cell_of_row _ _ _ _ _ _ hro]; rfl
  have hsd : W0.cell? ⟨z, 3, none⟩ = some (.int .u64 (d : Nat)) := by rw [cell_of_row _ _ _ _ _ _ hro]; rfl
  have K0 := rof_shp b o c T G hS.shp W0 (hT.keep0 hE0)
  have HS := hid hS
  have HE0 := hid hE0
  have HRes := hid hres
  clear hS hT hE0 hres
  go_enter Tryd.func24, Tryd.ntmps24
  go_wp2_with fail
  try rw [hW0]
  try simp only [hz]
  clear hW0 hz hro
  go_wp2_with fail
  refine K0.mono ?_
  clear K0
  rintro _ w1 ⟨hX1, ⟨_, p, q, cq, rfl, hR, hp, hq⟩ | ⟨hno, _⟩⟩
  case inr => exact absurd HS.out hno
  have hsm1 := hX1.cell hsm (by simp)
  have hsh1 := hX1.cell hsh (by simp)
  have hsd1 := hX1.cell hsd (by simp)
  have hw0 := HE0.out.size
  have HX1 := hid (HE0.out.trans hX1)
  have HR := hid hR
  clear hX1 hsm hsh hsd hR
  have K1 := rins_any p q cq G h d T w1 HR.out HS.out.shp.gp hh
  go_wp2_with fail
  refine K1.mono ?_
  clear K1
  rintro e w2 ⟨hI, hX2⟩
  have HX2 := hid (HX1.out.on hX2 (by simp; omega))
  have hag := ins_agree HS.out hh hd hI
  clear hI hX2 HR hsm1 hsh1 hsd1
  rcases hag with ⟨T2, hI2, rfl, hR2⟩ | ⟨hI2, rfl, _⟩
  · rcases HRes.out with ⟨T', hI1, rfl, rfl, hWx⟩ | ⟨hI1, _, _⟩
    case inr => (obtain ⟨g, i, hF, hno, _⟩ := hI2; exact absurd (hI1 g i hF) hno)
    obtain rfl : T' = T2 := insT_det hI1 hI2
    have hS' := (ins_facts HS.out hh hd hI1).1
    have KW := rwords_any p q cq G T' w2 hR2 hS'.shp (by rw [knt_full]; exact hS'.cnt) (by rw [knt_used hS']; exact hS'.use)
    have HWx := hid (hWx.keep0 HX2.out)
    have hlen := hS'.shp.len
    clear hI1 hI2 hR2 hWx hS' HRes
    go_wp2_with fail
    refine KW.mono ?_
    clear KW
    rintro _ w3 ⟨v, rfl, ho, hX3⟩
    obtain ⟨va, vc, rfl, _⟩ := own_slice ho
    rw [hlen] at ho ⊢
    have K3 := sameWords_true xa va (3 + 17 * G) xc vc T' w3 (HWx.out.keep0 hX3) (own_vs ho) hlen (by omega)
    have HX3 := hid (HX2.out.trans hX3)
    clear ho hX3 hlen HWx
    go_wp2_with fail
    refine K3.mono ?_
    clear K3
    rintro _ w4 ⟨rfl, hX4⟩
    have HX4 := hid (HX3.out.trans hX4)
    clear hX4
    go_wp2
    go_ret
    exact ⟨rfl, HX4.out⟩
  · rcases HRes.out with ⟨T', hI1, _⟩ | ⟨_, rfl, rfl⟩
    · exact (by obtain ⟨g, i, hF, hno, _⟩ := hI1; exact absurd (hI2 g i hF) hno)
    · clear HRes hI2
      go_wp2
      go_ret
      exact ⟨rfl, HX2.out⟩
set_option maxRecDepth 100000 in
set_option maxHeartbeats 4000000 in
theorem alike_del (T : List Nat) (G b o c : Nat) (xa : Option Addr) (xn xc er : Nat) (k M : Int) (h d : Nat) (hS : Sd T G) (hh : h < 18446744073709551616) (_hd : d < 18446744073709551616) (w : World) (hT : Wd w (some ⟨b, o, none⟩) T)
    (hres : (∃ T', DelT T G h d (some T') ∧ er = 0 ∧ xn = 3 + 17 * G ∧ Wd w xa T') ∨ (DelT T G h d none ∧ er = 4 ∧ xn = 0)) :
    Calls Tryd.prog 24 #[.slice xa xn xc, .int .u64 (er : Nat), .slice (some ⟨b, o, none⟩) (3 + 17 * G) c, .agg #[.int .i64 k, .int .i64 M, .int .u64 (h : Nat), .int .u64 (d : Nat)], .int .i64 1] w (SayPost w (.bool true)) := by
  have hG := hS.shp.gp.le
  obtain ⟨z, hz⟩ : ∃ z, w.heap.size = z := ⟨_, rfl⟩
  obtain ⟨W0, hW0⟩ : ∃ W0, w.alloc (.cells #[.int .i64 k, .int .i64 M, .int .u64 (h : Nat), .int .u64 (d : Nat)] 25) = W0 := ⟨_, rfl⟩
  have hro : W0.heap[z]? = some (.cells #[.int .i64 k, .int .i64 M, .int .u64 (h : Nat), .int .u64 (d : Nat)] 25 (0, 0)) := by rw [← hW0, ← hz]; exact heap_alloc_new w _
  have hE0 : Ext [] w W0 := by rw [← hW0]; exact Ext.alloc [] w _
  have hsm : W0.cell? ⟨z, 1, none⟩ = some (.int .i64 M) := by rw [cell_of_row _ _ _ _ _ _ hro]; rfl
  have hsh : W0.cell? ⟨z, 2, none⟩ = some (.int .u64 (h : Nat)) := by rw [cell_of_row _ _ _ _ _ _ hro]; rfl
  have hsd : W0.cell? ⟨z, 3, none⟩ = some (.int .u64 (d : Nat)) := by rw [cell_of_row _ _ _ _ _ _ hro]; rfl
  have K0 := rof_shp b o c T G hS.shp W0 (hT.keep0 hE0)
  have HS := hid hS
  have HE0 := hid hE0
  have HRes := hid hres
  clear hS hT hE0 hres
  go_enter Tryd.func24, Tryd.ntmps24
  go_wp2_with fail
  try rw [hW0]
  try simp only [hz]
  clear hW0 hz hro
  go_wp2_with fail
  refine K0.mono ?_
  clear K0
  rintro _ w1 ⟨hX1, ⟨_, p, q, cq, rfl, hR, hp, hq⟩ | ⟨hno, _⟩⟩
  case inr => exact absurd HS.out hno
  have hsm1 := hX1.cell hsm (by simp)
  have hsh1 := hX1.cell hsh (by simp)
  have hsd1 := hX1.cell hsd (by simp)
  have hw0 := HE0.out.size
  have HX1 := hid (HE0.out.trans hX1)
  have HR := hid hR
  clear hX1 hsm hsh hsd hR
  have K1 := rdel_any p q cq G h d T w1 HR.out HS.out.shp.gp hh
  go_wp2_with fail
  refine K1.mono ?_
  clear K1
  rintro e w2 ⟨hI, hX2⟩
  have HX2 := hid (HX1.out.on hX2 (by simp; omega))
  have hag := del_agree HS.out hI
  clear hI hX2 HR hsm1 hsh1 hsd1
  rcases hag with ⟨T2, hI2, rfl, hR2⟩ | ⟨hI2, rfl, _⟩
  · rcases HRes.out with ⟨T', hI1, rfl, rfl, hWx⟩ | ⟨hI1, _, _⟩
    case inr => exact absurd (delT_det hI1 hI2) (by simp)
    obtain rfl : T' = T2 := Option.some.inj (delT_det hI1 hI2)
    have hS' := (del_facts HS.out hI1).1
    have KW := rwords_any p q cq G T' w2 hR2 hS'.shp (by rw [knt_full]; exact hS'.cnt) (by rw [knt_used hS']; exact hS'.use)
    have HWx := hid (hWx.keep0 HX2.out)
    have hlen := hS'.shp.len
    clear hI1 hI2 hR2 hWx hS' HRes
    go_wp2_with fail
    refine KW.mono ?_
    clear KW
    rintro _ w3 ⟨v, rfl, ho, hX3⟩
    obtain ⟨va, vc, rfl, _⟩ := own_slice ho
    rw [hlen] at ho ⊢
    have K3 := sameWords_true xa va (3 + 17 * G) xc vc T' w3 (HWx.out.keep0 hX3) (own_vs ho) hlen (by omega)
    have HX3 := hid (HX2.out.trans hX3)
    clear ho hX3 hlen HWx
    go_wp2_with fail
    refine K3.mono ?_
    clear K3
    rintro _ w4 ⟨rfl, hX4⟩
    have HX4 := hid (HX3.out.trans hX4)
    clear hX4
    go_wp2
    go_ret
    exact ⟨rfl, HX4.out⟩
  · rcases HRes.out with ⟨T', hI1, _⟩ | ⟨_, rfl, rfl⟩
    · exact absurd (delT_det hI1 hI2) (by simp)
    · clear HRes hI2
      go_wp2
      go_ret
      exact ⟨rfl, HX2.out⟩
set_option maxRecDepth 100000 in
set_option maxHeartbeats 4000000 in
theorem alike_bad (T : List Nat) (G b o c : Nat) (xa : Option Addr) (xn xc er : Nat) (k M : Int) (h d : Nat) (hS : Sd T G) (hM : ¬ GpI M) (w : World) (hT : Wd w (some ⟨b, o, none⟩) T) (hres : er = 2 ∧ xn = 0) :
    Calls Tryd.prog 24 #[.slice xa xn xc, .int .u64 (er : Nat), .slice (some ⟨b, o, none⟩) (3 + 17 * G) c, .agg #[.int .i64 k, .int .i64 M, .int .u64 (h : Nat), .int .u64 (d : Nat)], .int .i64 3] w (SayPost w (.bool true)) := by
  have hG := hS.shp.gp.le
  obtain ⟨z, hz⟩ : ∃ z, w.heap.size = z := ⟨_, rfl⟩
  obtain ⟨W0, hW0⟩ : ∃ W0, w.alloc (.cells #[.int .i64 k, .int .i64 M, .int .u64 (h : Nat), .int .u64 (d : Nat)] 25) = W0 := ⟨_, rfl⟩
  have hro : W0.heap[z]? = some (.cells #[.int .i64 k, .int .i64 M, .int .u64 (h : Nat), .int .u64 (d : Nat)] 25 (0, 0)) := by rw [← hW0, ← hz]; exact heap_alloc_new w _
  have hE0 : Ext [] w W0 := by rw [← hW0]; exact Ext.alloc [] w _
  have hsm : W0.cell? ⟨z, 1, none⟩ = some (.int .i64 M) := by rw [cell_of_row _ _ _ _ _ _ hro]; rfl
  have hsh : W0.cell? ⟨z, 2, none⟩ = some (.int .u64 (h : Nat)) := by rw [cell_of_row _ _ _ _ _ _ hro]; rfl
  have hsd : W0.cell? ⟨z, 3, none⟩ = some (.int .u64 (d : Nat)) := by rw [cell_of_row _ _ _ _ _ _ hro]; rfl
  have K0 := rof_shp b o c T G hS.shp W0 (hT.keep0 hE0)
  have HS := hid hS
  have HE0 := hid hE0
  have HRes := hid hres
  clear hS hT hE0 hres
  go_enter Tryd.func24, Tryd.ntmps24
  go_wp2_with fail
  try rw [hW0]
  try simp only [hz]
  clear hW0 hz hro
  go_wp2_with fail
  refine K0.mono ?_
  clear K0
  rintro _ w1 ⟨hX1, ⟨_, p, q, cq, rfl, hR, hp, hq⟩ | ⟨hno, _⟩⟩
  case inr => exact absurd HS.out hno
  have hsm1 := hX1.cell hsm (by simp)
  have hsh1 := hX1.cell hsh (by simp)
  have hsd1 := hX1.cell hsd (by simp)
  have hw0 := HE0.out.size
  have HX1 := hid (HE0.out.trans hX1)
  have HR := hid hR
  clear hX1 hsm hsh hsd hR
  have K1 := rgrow_bad p M w1 hM
  obtain ⟨rfl, rfl⟩ := HRes.out
  clear HRes hM
  go_wp2_with fail
  refine met K1 ?_
  clear K1
  go_wp2
  go_ret
  exact ⟨rfl, HX1.out⟩
set_option maxRecDepth 100000 in
set_option maxHeartbeats 4000000 in
theorem alike_grow (T : List Nat) (G b o c : Nat) (xa : Option Addr) (xn xc er : Nat) (k : Int) (M : Nat) (h d : Nat) (hS : Sd T G) (hM : Gp M) (w : World) (hT : Wd w (some ⟨b, o, none⟩) T)
    (hres : (∃ X, Fil X M (ents T G) ∧ er = 0 ∧ xn = 3 + 17 * M ∧ Wd w xa X) ∨ (7 * M < T.getD 1 0 ∧ er = 7 ∧ xn = 0)) :
    Calls Tryd.prog 24 #[.slice xa xn xc, .int .u64 (er : Nat), .slice (some ⟨b, o, none⟩) (3 + 17 * G) c, .agg #[.int .i64 k, .int .i64 (M : Nat), .int .u64 (h : Nat), .int .u64 (d : Nat)], .int .i64 3] w (SayPost w (.bool true)) := by
  have hMl := hM.le
  have hG := hS.shp.gp.le
  obtain ⟨z, hz⟩ : ∃ z, w.heap.size = z := ⟨_, rfl⟩
  obtain ⟨W0, hW0⟩ : ∃ W0, w.alloc (.cells #[.int .i64 k, .int .i64 (M : Nat), .int .u64 (h : Nat), .int .u64 (d : Nat)] 25) = W0 := ⟨_, rfl⟩
  have hro : W0.heap[z]? = some (.cells #[.int .i64 k, .int .i64 (M : Nat), .int .u64 (h : Nat), .int .u64 (d : Nat)] 25 (0, 0)) := by rw [← hW0, ← hz]; exact heap_alloc_new w _
  have hE0 : Ext [] w W0 := by rw [← hW0]; exact Ext.alloc [] w _
  have hsm : W0.cell? ⟨z, 1, none⟩ = some (.int .i64 (M : Nat)) := by rw [cell_of_row _ _ _ _ _ _ hro]; rfl
  have hsh : W0.cell? ⟨z, 2, none⟩ = some (.int .u64 (h : Nat)) := by rw [cell_of_row _ _ _ _ _ _ hro]; rfl
  have hsd : W0.cell? ⟨z, 3, none⟩ = some (.int .u64 (d : Nat)) := by rw [cell_of_row _ _ _ _ _ _ hro]; rfl
  have K0 := rof_shp b o c T G hS.shp W0 (hT.keep0 hE0)
  have HS := hid hS
  have HE0 := hid hE0
  have HRes := hid hres
  clear hS hT hE0 hres
  go_enter Tryd.func24, Tryd.ntmps24
  go_wp2_with fail
  try rw [hW0]
  try simp only [hz]
  clear hW0 hz hro
  go_wp2_with fail
  refine K0.mono ?_
  clear K0
  rintro _ w1 ⟨hX1, ⟨_, p, q, cq, rfl, hR, hp, hq⟩ | ⟨hno, _⟩⟩
  case inr => exact absurd HS.out hno
  have hsm1 := hX1.cell hsm (by simp)
  have hsh1 := hX1.cell hsh (by simp)
  have hsd1 := hX1.cell hsd (by simp)
  have hw0 := HE0.out.size
  have HX1 := hid (HE0.out.trans hX1)
  have HR := hid hR
  clear hX1 hsm hsh hsd hR
  rcases HRes.out with ⟨X, hF, rfl, rfl, hWx⟩ | ⟨hfull, rfl, rfl⟩
  · have hn : nfl T G ≤ 7 * M := by
      have h1 := hF.nd
      rw [ents_tot] at h1
      omega
    have K1 := rgrow_ok p q cq G M T w1 HR.out HS.out hM hn
    have HFi := hid hF
    have HWx := hid (hWx.keep0 HX1.out)
    clear hF hn hWx HRes hM
    go_wp2_with fail
    refine K1.mono ?_
    clear K1
    rintro _ w2 ⟨p1, q1, X2, rfl, hRx, hF2, hp1, hq1, hX2⟩
    obtain rfl := fil_det HFi.out hF2
    have hS' := HFi.out.sd
    have KW := rwords_any p1 q1 _ M X w2 hRx hS'.shp (by rw [knt_full]; exact hS'.cnt) (by rw [knt_used hS']; exact hS'.use)
    have HX2 := hid (HX1.out.trans hX2)
    have HWx2 := hid (HWx.out.keep0 hX2)
    have hlen := hS'.shp.len
    clear hF2 hRx hX2 hS' HWx
    go_wp2_with fail
    refine KW.mono ?_
    clear KW
    rintro _ w3 ⟨v, rfl, ho, hX3⟩
    obtain ⟨va, vc, rfl, _⟩ := own_slice ho
    rw [hlen] at ho ⊢
    have K3 := sameWords_true xa va (3 + 17 * M) xc vc X w3 (HWx2.out.keep0 hX3) (own_vs ho) hlen (by omega)
    have HX3 := hid (HX2.out.trans hX3)
    clear ho hX3 hlen HWx2
    go_wp2_with fail
    refine K3.mono ?_
    clear K3
    rintro _ w4 ⟨rfl, hX4⟩
    have HX4 := hid (HX3.out.trans hX4)
    clear hX4
    go_wp2
    go_ret
    exact ⟨rfl, HX4.out⟩
  · have hn : 7 * M < nfl T G := by rw [← HS.out.cnt]; exact hfull
    have K1 := rgrow_full p q cq G M T w1 HR.out HS.out hM hn
    clear hfull hn HRes hM
    go_wp2_with fail
    refine K1.mono ?_
    clear K1
    rintro _ w2 ⟨rfl, hX2⟩
    have HX2 := hid (HX1.out.trans hX2)
    clear hX2
    go_wp2
    go_ret
    exact ⟨rfl, HX2.out⟩
end Go.Proofs.YtkknadkcpndnaaaDoor.Rf

/-
  The walk of TableWords: words that are no table; no statement is proved here.
-/
namespace Go.Proofs.YtkknadkcpndnaaaDoor.Rf
open Go.RowKit Go.Shelf
open Pr (Gp GpI sq)
attribute [local go_sem] Oper.semAt_some run_store_func

theorem rof_no (a : Option Addr) (n c : Nat) (T : List Nat) (hN : Ntb T n) (w : World) (hT : Wd w a T) :
    Calls Tryd.prog 10 #[.slice a n c] w (SayPost w (.pointer none)) := by
  by_cases h : ∃ G, Shp T G
  · obtain ⟨G, hP⟩ := h
    obtain rfl : n = 3 + 17 * G := by rw [← hN.len, hP.len]
    obtain ⟨b, o, rfl, _⟩ := hT.at_ (by rintro rfl; have := hP.len; simp at this; omega)
    refine (rof_shp b o c T G hP w hT).mono ?_
    rintro e w' ⟨hX, ⟨hS, _⟩ | ⟨_, rfl⟩⟩
    · exact absurd hS (hN.no G)
    · exact ⟨rfl, hX⟩
  · refine (rof_short a n c T hN (fun G hP => h ⟨G, hP⟩) w hT).mono ?_
    rintro e w' ⟨rfl, rfl⟩
    exact ⟨rfl, Ext.refl _ _⟩
theorem ownN (a : Option Addr) (n c : Nat) (T : List Nat) (hN : Ntb T n) (w : World) (hT : Wd w a T) : Calls Tryd.prog 12 #[.slice a n c] w fun e w' => ∃ a' c', e = .returned (.slice a' n c') ∧ Wd w' a' T ∧ Ext [] w w' :=
  (own_any a n c T w hT hN.len hN.le).mono (by
    rintro e w' ⟨a', c', rfl, ho, hX⟩
    rw [hN.len] at ho ⊢
    exact ⟨a', c', rfl, own_vs ho, hX⟩)
set_option maxRecDepth 100000 in
set_option maxHeartbeats 8000000 in
theorem words_no (a : Option Addr) (n c : Nat) (T : List Nat) (k M : Int) (h d : Nat) (hN : Ntb T n) (_hh : h < 18446744073709551616) (_hd : d < 18446744073709551616) (w : World) (hT : Wd w a T) :
    Calls Tryd.prog 3 #[.slice a n c, .agg #[.int .i64 k, .int .i64 M, .int .u64 (h : Nat), .int .u64 (d : Nat)]] w (SayPost w (.bool true)) := by
  have hnb := hN.le
  obtain ⟨z, hz⟩ : ∃ z, w.heap.size = z := ⟨_, rfl⟩
  obtain ⟨W0, hW0⟩ : ∃ W0, w.alloc (.cells #[.int .i64 k, .int .i64 M, .int .u64 (h : Nat), .int .u64 (d : Nat)] 25) = W0 := ⟨_, rfl⟩
  have hro : W0.heap[z]? = some (.cells #[.int .i64 k, .int .i64 M, .int .u64 (h : Nat), .int .u64 (d : Nat)] 25 (0, 0)) := by rw [← hW0, ← hz]; exact heap_alloc_new w _
  have hE0 : Ext [] w W0 := by rw [← hW0]; exact Ext.alloc [] w _
  have hC0 : W0.cell? ⟨z, 1, none⟩ = some (.int .i64 M) ∧ W0.cell? ⟨z, 2, none⟩ = some (.int .u64 (h : Nat)) ∧ W0.cell? ⟨z, 3, none⟩ = some (.int .u64 (d : Nat)) := ⟨by rw [cell_of_row _ _ _ _ _ _ hro]; rfl, by rw [cell_of_row _ _ _ _ _ _ hro]; rfl, by rw [cell_of_row _ _ _ _ _ _ hro]; rfl⟩
  have HN := hid hN
  have HT := hid hT
  have HX0 := hid hE0
  have HC0 := hid (fun u (hu : Ext [] W0 u) => (⟨hu.cell hC0.1 (by simp), hu.cell hC0.2.1 (by simp), hu.cell hC0.2.2 (by simp)⟩ : u.cell? ⟨z, 1, none⟩ = some (.int .i64 M) ∧ u.cell? ⟨z, 2, none⟩ = some (.int .u64 (h : Nat)) ∧ u.cell? ⟨z, 3, none⟩ = some (.int .u64 (d : Nat))))
  have KA := awake_any W0
  clear hN hT hE0 hC0 hro
  go_enter Tryd.func3, Tryd.ntmps3
  go_wp2_with fail
  try rw [hW0]
  try simp only [hz]
  clear hW0 hz
  go_wp2_with fail
  refine KA.mono ?_
  clear KA
  rintro _ w1 ⟨rfl, hX1⟩
  have HY1 := hid hX1
  have K1 := rof_no a n c T HN.out w1 (HT.out.keep0 (HX0.out.trans hX1))
  clear hX1
  go_wp2_with fail
  refine K1.mono ?_
  clear K1
  rintro _ w2 ⟨rfl, hX2⟩
  have HY2 := hid (HY1.out.trans hX2)
  have K1 := ownN a n c T HN.out w2 (HT.out.keep0 (HX0.out.trans HY2.out))
  clear hX2 HY1
  go_wp2_with fail
  refine K1.mono ?_
  clear K1
  rintro _ w3 ⟨a3, c3, rfl, hW3, hX3⟩
  have HY3 := hid (HY2.out.trans hX3)
  have K1 := check_no a3 n c3 T HN.out w3 hW3
  clear hX3 HY2 hW3
  go_wp2_with fail
  refine K1.mono ?_
  clear K1
  rintro _ w4 ⟨rfl, hX4⟩
  have HY4 := hid (HY3.out.trans hX4)
  have K1 := ownN a n c T HN.out w4 (HT.out.keep0 (HX0.out.trans HY4.out))
  clear hX4 HY3
  go_wp2_with fail
  refine K1.mono ?_
  clear K1
  rintro _ w5 ⟨a5, c5, rfl, hW5, hX5⟩
  have HY5 := hid (HY4.out.trans hX5)
  have K1 := len_no a5 n c5 T HN.out w5 hW5
  clear hX5 HY4 hW5
  go_wp2_with fail
  refine K1.mono ?_
  clear K1
  rintro _ w6 ⟨rfl, hX6⟩
  have HY6 := hid (HY5.out.trans hX6)
  obtain ⟨d1, d2, d3⟩ := HC0.out w6 HY6.out
  have K1 := found_no a n c h T HN.out w6 (HT.out.keep0 (HX0.out.trans HY6.out))
  clear hX6 HY5
  go_wp2_with fail
  refine K1.mono ?_
  clear K1 d1 d2 d3
  rintro _ w7 ⟨la, lc, rfl, hX7⟩
  have HY7 := hid (HY6.out.trans hX7)
  have K1 := pairs_no a n c T HN.out w7 (HT.out.keep0 (HX0.out.trans HY7.out))
  clear hX7 HY6
  go_wp2_with fail
  refine K1.mono ?_
  clear K1
  rintro _ w8 ⟨pa, pc, rfl, hX8⟩
  have HY8 := hid (HY7.out.trans hX8)
  clear hX8 HY7
  have KO := fun u (hu : Ext [] w8 u) => ownN a n c T HN.out u (HT.out.keep0 ((HX0.out.trans HY8.out).trans hu))
  have KC := fun u a1 c1 (ht : Wd u a1 T) => tins_no a1 n c1 h d T HN.out u ht
  obtain ⟨d1, d2, d3⟩ := HC0.out w8 HY8.out
  have hs1 : (w8.drew).cell? ⟨z, 1, none⟩ = some (.int .i64 M) := d1
  have hs2 : (w8.drew).cell? ⟨z, 2, none⟩ = some (.int .u64 (h : Nat)) := d2
  have hs3 : (w8.drew).cell? ⟨z, 3, none⟩ = some (.int .u64 (d : Nat)) := d3
  have hxd := Ext.drew [] w8
  clear d1 d2 d3
  go_wp2_with fail
  go_region_held3 (fun w' => w'.cell? ⟨z, 1, none⟩ = some (.int .i64 M) ∧ w'.cell? ⟨z, 2, none⟩ = some (.int .u64 (h : Nat)) ∧ w'.cell? ⟨z, 3, none⟩ = some (.int .u64 (d : Nat)))
    (first | exact ⟨(hX1.trans hX2).cell hs1 (by simp), (hX1.trans hX2).cell hs2 (by simp), (hX1.trans hX2).cell hs3 (by simp)⟩ | exact ⟨hX1.cell hs1 (by simp), hX1.cell hs2 (by simp), hX1.cell hs3 (by simp)⟩ | go_keep)
    (first | (go_at_call 12; refine (KO _ hxd).mono ?_; rintro e u1 ⟨a1, c1, rfl, hW1, hX1⟩) | (go_at_call 16; refine (KC u1 a1 c1 hW1).mono ?_; rintro _ w9 ⟨rfl, hX2⟩) | fail "no arm")
  have HY9 := hid (HY8.out.trans ((hxd.trans hX1).trans hX2))
  clear KO KC hs1 hs2 hs3 hxd hX1 hX2 hW1 HY8
  have KO := fun u (hu : Ext [] w9 u) => ownN a n c T HN.out u (HT.out.keep0 ((HX0.out.trans HY9.out).trans hu))
  have KC := fun u a1 c1 (ht : Wd u a1 T) => tdel_no a1 n c1 T h d HN.out u ht
  obtain ⟨d1, d2, d3⟩ := HC0.out w9 HY9.out
  have hs1 : (w9.drew).cell? ⟨z, 1, none⟩ = some (.int .i64 M) := d1
  have hs2 : (w9.drew).cell? ⟨z, 2, none⟩ = some (.int .u64 (h : Nat)) := d2
  have hs3 : (w9.drew).cell? ⟨z, 3, none⟩ = some (.int .u64 (d : Nat)) := d3
  have hxd := Ext.drew [] w9
  clear d1 d2 d3
  go_wp2_with fail
  go_region_held3 (fun w' => w'.cell? ⟨z, 1, none⟩ = some (.int .i64 M) ∧ w'.cell? ⟨z, 2, none⟩ = some (.int .u64 (h : Nat)) ∧ w'.cell? ⟨z, 3, none⟩ = some (.int .u64 (d : Nat)))
    (first | exact ⟨(hX1.trans hX2).cell hs1 (by simp), (hX1.trans hX2).cell hs2 (by simp), (hX1.trans hX2).cell hs3 (by simp)⟩ | exact ⟨hX1.cell hs1 (by simp), hX1.cell hs2 (by simp), hX1.cell hs3 (by simp)⟩ | go_keep)
    (first | (go_at_call 12; refine (KO _ hxd).mono ?_; rintro e u1 ⟨a1, c1, rfl, hW1, hX1⟩) | (go_at_call 17; refine (KC u1 a1 c1 hW1).mono ?_; rintro _ w10 ⟨rfl, hX2⟩) | fail "no arm")
  have HY10 := hid (HY9.out.trans ((hxd.trans hX1).trans hX2))
  clear KO KC hs1 hs2 hs3 hxd hX1 hX2 hW1 HY9
  have KO := fun u (hu : Ext [] w10 u) => ownN a n c T HN.out u (HT.out.keep0 ((HX0.out.trans HY10.out).trans hu))
  have KC := fun u a1 c1 (ht : Wd u a1 T) => tgrow_no a1 n c1 T M HN.out u ht
  obtain ⟨d1, d2, d3⟩ := HC0.out w10 HY10.out
  have hs1 : (w10.drew).cell? ⟨z, 1, none⟩ = some (.int .i64 M) := d1
  have hs2 : (w10.drew).cell? ⟨z, 2, none⟩ = some (.int .u64 (h : Nat)) := d2
  have hs3 : (w10.drew).cell? ⟨z, 3, none⟩ = some (.int .u64 (d : Nat)) := d3
  have hxd := Ext.drew [] w10
  clear d1 d2 d3
  go_wp2_with fail
  go_region_held3 (fun w' => w'.cell? ⟨z, 1, none⟩ = some (.int .i64 M) ∧ w'.cell? ⟨z, 2, none⟩ = some (.int .u64 (h : Nat)) ∧ w'.cell? ⟨z, 3, none⟩ = some (.int .u64 (d : Nat)))
    (first | exact ⟨(hX1.trans hX2).cell hs1 (by simp), (hX1.trans hX2).cell hs2 (by simp), (hX1.trans hX2).cell hs3 (by simp)⟩ | exact ⟨hX1.cell hs1 (by simp), hX1.cell hs2 (by simp), hX1.cell hs3 (by simp)⟩ | go_keep)
    (first | (go_at_call 12; refine (KO _ hxd).mono ?_; rintro e u1 ⟨a1, c1, rfl, hW1, hX1⟩) | (go_at_call 18; refine (KC u1 a1 c1 hW1).mono ?_; rintro _ w11 ⟨rfl, hX2⟩) | fail "no arm")
  have HY11 := hid (HY10.out.trans ((hxd.trans hX1).trans hX2))
  clear KO KC hs1 hs2 hs3 hxd hX1 hX2 hW1 HY10
  have HF := hid (HX0.out.trans HY11.out)
  go_wp2
  go_ret
  exact ⟨rfl, HF.out⟩
end Go.Proofs.YtkknadkcpndnaaaDoor.Rf
