/-
  RfP, RfQ: joined by program; no statement is proved here.
-/
import Derived.Test.YtkknadkcpndnaaaDoorZS
import Derived.Test.YtkknadkcpndnaaaDoorZQ
/-
  One call on both tables: the program's and the document's; no statement is proved here.
-/
namespace Go.Proofs.YtkknadkcpndnaaaDoor.Rf
open Go.RowKit Go.Shelf
open Pr (Gp GpI sq)
attribute [local go_sem] Oper.semAt_some run_store_func

theorem row_ne {w : World} {p q c G g : Nat} {T X : List Nat} (hR : Rt w p q c G T) (hT : Tw w g X) : g ≠ p ∧ g ≠ q := by
  obtain ⟨cs, h1, _⟩ := hT
  obtain ⟨ds, h2, _⟩ := hR.row
  have h3 := hR.blk
  constructor
  · rintro rfl
    rw [h1] at h3
    simp at h3
  · rintro rfl
    rw [h1] at h2
    simp at h2
theorem Rt.lts {w : World} {p q c G : Nat} {T : List Nat} (hR : Rt w p q c G T) : p < w.heap.size ∧ q < w.heap.size := by
  obtain ⟨ds, h2, _⟩ := hR.row
  exact ⟨lt_of_heap hR.blk, lt_of_heap h2⟩
/-- What a call on both leaves. -/
def StPost (w : World) (g p q : Nat) (e : Ending) (w' : World) : Prop := Ext [q] w w' ∧ ∃ T' G' g' c' p' q' k', e = .returned (.tuple #[.slice (some ⟨g', 0, none⟩) (3 + 17 * G') c', .pointer (some ⟨p', 0, none⟩), .bool true]) ∧ Sd T' G' ∧ Tw w' g' T' ∧ Rt w' p' q' k' G' T' ∧ (g' = g ∨ w.heap.size ≤ g') ∧ (p' = p ∨ w.heap.size ≤ p') ∧ (q' = q ∨ w.heap.size ≤ q')
theorem ins_both {T : List Nat} {p q c G h d : Nat} {w w' : World} {e : Ending} (hS : Sd T G) (hh : h < 18446744073709551616) (hd : d < 18446744073709551616) {u : World} {f : Ending} (hP : TInsPost T G h d u f w) (hI : RIns T p q c G h d w' e) :
    (∃ T' g x, Sd T' G ∧ f = .returned (.tuple #[.slice (some ⟨g, 0, none⟩) (3 + 17 * G) x, .int .i64 0]) ∧ Tw w g T' ∧ u.heap.size ≤ g ∧ e = .returned (.bool true) ∧ Rt w' p q c G T') ∨
    (f = .returned (.tuple #[.slice none 0 0, .int .i64 7]) ∧ e = .returned (.bool false) ∧ Rt w' p q c G T) := by
  have hdet : ∀ {X : List Nat}, InsT T G h d (some X) → ¬ InsT T G h d none := fun {X} a b => by
    obtain ⟨g, i, hF, hno, _⟩ := a
    exact hno (b g i hF)
  rcases hP.2 with ⟨T', g, x, a1, rfl, a2, a3⟩ | ⟨a1, rfl⟩ <;> rcases ins_agree hS hh hd hI with ⟨T2, b1, rfl, b3⟩ | ⟨b1, rfl, b3⟩
  · exact .inl ⟨T', g, x, (ins_facts hS hh hd a1).1, rfl, a2, a3, rfl, by rw [insT_det a1 b1]; exact b3⟩
  · exact absurd b1 (hdet a1)
  · exact absurd a1 (hdet b1)
  · exact .inr ⟨rfl, rfl, b3⟩
theorem del_both {T : List Nat} {p q c G h d : Nat} {w w' : World} {e : Ending} (hS : Sd T G) {u : World} {f : Ending} (hP : TDelPost T G h d u f w) (hI : RDel T p q c G h d (wk T (sq (h / 128) G)) w' e) :
    (∃ T' g x, Sd T' G ∧ f = .returned (.tuple #[.slice (some ⟨g, 0, none⟩) (3 + 17 * G) x, .int .i64 0]) ∧ Tw w g T' ∧ u.heap.size ≤ g ∧ e = .returned (.bool true) ∧ Rt w' p q c G T') ∨
    (f = .returned (.tuple #[.slice none 0 0, .int .i64 4]) ∧ e = .returned (.bool false) ∧ Rt w' p q c G T) := by
  rcases hP.2 with ⟨T', g, x, a1, rfl, a2, a3⟩ | ⟨a1, rfl⟩ <;> rcases del_agree hS hI with ⟨T2, b1, rfl, b3⟩ | ⟨b1, rfl, b3⟩
  · exact .inl ⟨T', g, x, (del_facts hS a1).1, rfl, a2, a3, rfl, by rw [Option.some.inj (delT_det a1 b1)]; exact b3⟩
  · exact absurd (delT_det a1 b1) (by simp)
  · exact absurd (delT_det a1 b1) (by simp)
  · exact .inr ⟨rfl, rfl, b3⟩
theorem ins_f {T : List Nat} {G h d : Nat} {w w' : World} {e : Ending} (hP : TInsPost T G h d w e w') : ∃ va vn vc er, e = .returned (.tuple #[.slice va vn vc, .int .i64 er]) ∧ Ext [] w w' ∧ Hid (TInsPost T G h d w (.returned (.tuple #[.slice va vn vc, .int .i64 er])) w') := by
  have hP' := hP
  rcases hP.2 with ⟨T', g, c, hI, rfl, hTw, hg⟩ | ⟨_, rfl⟩
  · exact ⟨_, _, _, _, rfl, hP.1, hP'⟩
  · exact ⟨_, _, _, _, rfl, hP.1, hP'⟩
theorem del_f {T : List Nat} {G h d : Nat} {w w' : World} {e : Ending} (hP : TDelPost T G h d w e w') : ∃ va vn vc er, e = .returned (.tuple #[.slice va vn vc, .int .i64 er]) ∧ Ext [] w w' ∧ Hid (TDelPost T G h d w (.returned (.tuple #[.slice va vn vc, .int .i64 er])) w') := by
  have hP' := hP
  rcases hP.2 with ⟨T', g, c, hI, rfl, hTw, hg⟩ | ⟨_, rfl⟩
  · exact ⟨_, _, _, _, rfl, hP.1, hP'⟩
  · exact ⟨_, _, _, _, rfl, hP.1, hP'⟩

set_option maxRecDepth 100000 in
set_option maxHeartbeats 4000000 in
theorem step_del (T : List Nat) (G g c p q cq : Nat) (k M : Int) (h d : Nat) (hk : ((k : Int) == 1) = true) (hS : Sd T G) (hh : h < 18446744073709551616) (_hd : d < 18446744073709551616) (w : World) (hT : Tw w g T) (hR : Rt w p q cq G T) (hTb : Tb w) :
    Calls Tryd.prog 27 #[.slice (some ⟨g, 0, none⟩) (3 + 17 * G) c, .pointer (some ⟨p, 0, none⟩), .agg #[.int .i64 k, .int .i64 M, .int .u64 (h : Nat), .int .u64 (d : Nat)]] w (StPost w g p q) := by
  have hG := hS.shp.gp.le
  obtain ⟨z, hz⟩ : ∃ z, w.heap.size = z := ⟨_, rfl⟩
  obtain ⟨W0, hW0⟩ : ∃ W0, w.alloc (.cells #[.int .i64 k, .int .i64 M, .int .u64 (h : Nat), .int .u64 (d : Nat)] 25) = W0 := ⟨_, rfl⟩
  have hro : W0.heap[z]? = some (.cells #[.int .i64 k, .int .i64 M, .int .u64 (h : Nat), .int .u64 (d : Nat)] 25 (0, 0)) := by rw [← hW0, ← hz]; exact heap_alloc_new w _
  have hE0 : Ext [] w W0 := by rw [← hW0]; exact Ext.alloc [] w _
  have hs0 : W0.cell? ⟨z, 0, none⟩ = some (.int .i64 k) := by rw [cell_of_row _ _ _ _ _ _ hro]; rfl
  have hs1 : (W0.drew).cell? ⟨z, 2, none⟩ = some (.int .u64 (h : Nat)) := (by rw [cell_of_row _ _ _ _ _ _ hro]; rfl : W0.cell? ⟨z, 2, none⟩ = _)
  have hs2 : (W0.drew).cell? ⟨z, 3, none⟩ = some (.int .u64 (d : Nat)) := (by rw [cell_of_row _ _ _ _ _ _ hro]; rfl : W0.cell? ⟨z, 3, none⟩ = _)
  have hxd : Ext [] w W0.drew := hE0.trans (Ext.drew [] W0)
  have KO := fun u (hu : Ext [] w u) => ownT_any (some ⟨g, 0, none⟩) (3 + 17 * G) c T u (hT.keep0 hu).wd hS.shp.len (by omega) (by omega)
  have KC := fun u g1 c1 (ht : Tw u g1 T) (hu : Ext [] w u) => (tdelete_any (some ⟨g1, 0, none⟩) c1 T G h d hS hh u ht.wd (hTb.keep0 hu)).mono (fun _ _ hp => del_f hp)
  have HS := hid hS
  have HT := hid hT
  have HR := hid hR
  have HZ := hid hz
  have HNe := hid (row_ne hR hT).2
  clear hS hT hR hTb hE0 hro
  go_enter Tryd.func27, Tryd.ntmps27
  go_wp2_with fail
  try rw [hW0]
  try simp only [hz]
  clear hW0 hz
  go_wp2_with fail
  go_region_held3 (fun w' => w'.cell? ⟨z, 2, none⟩ = some (.int .u64 (h : Nat)) ∧ w'.cell? ⟨z, 3, none⟩ = some (.int .u64 (d : Nat)))
    (first | exact ⟨(hX1.trans hX2).cell hs1 (by simp), (hX1.trans hX2).cell hs2 (by simp)⟩ | exact ⟨hX1.cell hs1 (by simp), hX1.cell hs2 (by simp)⟩ | go_keep)
    (first | (go_at_call 12; refine (KO _ hxd).mono ?_; rintro e u1 ⟨g1, cc1, rfl, hTw1, hg1, hX1⟩) | (go_at_call 17; refine (KC u1 g1 cc1 hTw1 (hxd.trans hX1)).mono ?_; rintro e u2 ⟨va, vn, vc, er, rfl, hX2, hres⟩) | fail "no arm")
  have hs1' := (hX1.trans hX2).cell hs1 (by simp)
  have hs2' := (hX1.trans hX2).cell hs2 (by simp)
  have HX2 := hid ((hxd.trans hX1).trans hX2)
  have h1z : w.heap.size ≤ u1.heap.size := (hxd.trans hX1).size
  have K2 := rdel_any p q cq G h d T u2 (HR.out.keep0 HX2.out) HS.out.shp.gp hh
  clear KO KC hX1 hX2 hTw1 hg1 hxd hs1 hs2 hs0
  go_wp2_with fail
  refine K2.mono ?_
  clear K2
  rintro e w3 ⟨hI, hX3⟩
  have HX3 := hid ((HX2.out.mono (by simp)).trans hX3)
  have HB := del_both HS.out hres.out hI
  clear hI
  rcases HB with ⟨T', g', x, hS', hf, hTw, hg', rfl, hR'⟩ | ⟨hf, rfl, hR'⟩
  · have hf2 : va = some ⟨g', 0, none⟩ ∧ vn = 3 + 17 * G ∧ vc = x ∧ er = 0 := by simpa [and_assoc] using hf
    obtain ⟨rfl, rfl, rfl, rfl⟩ := hf2
    have HF := hid (show StPost w g p q (.returned (.tuple #[.slice (some ⟨g', 0, none⟩) (3 + 17 * G) vc, .pointer (some ⟨p, 0, none⟩), .bool true])) w3 from
      ⟨HX3.out, T', G, g', vc, p, q, cq, rfl, hS', hTw.keep hX3 (by simpa using (row_ne (HR.out.keep0 HX2.out) hTw).2), hR', .inr (Nat.le_trans h1z hg'), .inl rfl, .inl rfl⟩)
    clear hf hTw hR' hS' hg' hres hX3 hs1' hs2'
    go_wp2
    try simp only [Exit.inBlock, Exit.then]
    refine bodyPost_ret (results_tmp3 rfl _ _ _) rfl ?_
    exact HF.out
  · have hf2 : va = none ∧ vn = 0 ∧ vc = 0 ∧ er = 4 := by simpa [and_assoc] using hf
    obtain ⟨rfl, rfl, rfl, rfl⟩ := hf2
    have HF := hid (show StPost w g p q (.returned (.tuple #[.slice (some ⟨g, 0, none⟩) (3 + 17 * G) c, .pointer (some ⟨p, 0, none⟩), .bool true])) w3 from
      ⟨HX3.out, T, G, g, c, p, q, cq, rfl, HS.out, HT.out.keep HX3.out (by simpa using HNe.out), hR', .inl rfl, .inl rfl, .inl rfl⟩)
    clear hf hR' hres hX3 hs1' hs2'
    go_wp2
    try simp only [Exit.inBlock, Exit.then]
    refine bodyPost_ret (results_tmp3 rfl _ _ _) rfl ?_
    exact HF.out

set_option maxRecDepth 100000 in
set_option maxHeartbeats 4000000 in
theorem step_ins (T : List Nat) (G g c p q cq : Nat) (k M : Int) (h d : Nat) (hk1 : ((k : Int) == 1) = false) (hk2 : ((k : Int) == 2) = false) (hk3 : ((k : Int) == 3) = false) (hS : Sd T G) (hh : h < 18446744073709551616) (hd : d < 18446744073709551616) (w : World) (hT : Tw w g T) (hR : Rt w p q cq G T) (hTb : Tb w) :
    Calls Tryd.prog 27 #[.slice (some ⟨g, 0, none⟩) (3 + 17 * G) c, .pointer (some ⟨p, 0, none⟩), .agg #[.int .i64 k, .int .i64 M, .int .u64 (h : Nat), .int .u64 (d : Nat)]] w (StPost w g p q) := by
  have hG := hS.shp.gp.le
  obtain ⟨z, hz⟩ : ∃ z, w.heap.size = z := ⟨_, rfl⟩
  obtain ⟨W0, hW0⟩ : ∃ W0, w.alloc (.cells #[.int .i64 k, .int .i64 M, .int .u64 (h : Nat), .int .u64 (d : Nat)] 25) = W0 := ⟨_, rfl⟩
  have hro : W0.heap[z]? = some (.cells #[.int .i64 k, .int .i64 M, .int .u64 (h : Nat), .int .u64 (d : Nat)] 25 (0, 0)) := by rw [← hW0, ← hz]; exact heap_alloc_new w _
  have hE0 : Ext [] w W0 := by rw [← hW0]; exact Ext.alloc [] w _
  have hs0 : W0.cell? ⟨z, 0, none⟩ = some (.int .i64 k) := by rw [cell_of_row _ _ _ _ _ _ hro]; rfl
  have hs1 : (W0.drew).cell? ⟨z, 2, none⟩ = some (.int .u64 (h : Nat)) := (by rw [cell_of_row _ _ _ _ _ _ hro]; rfl : W0.cell? ⟨z, 2, none⟩ = _)
  have hs2 : (W0.drew).cell? ⟨z, 3, none⟩ = some (.int .u64 (d : Nat)) := (by rw [cell_of_row _ _ _ _ _ _ hro]; rfl : W0.cell? ⟨z, 3, none⟩ = _)
  have hxd : Ext [] w W0.drew := hE0.trans (Ext.drew [] W0)
  have KO := fun u (hu : Ext [] w u) => ownT_any (some ⟨g, 0, none⟩) (3 + 17 * G) c T u (hT.keep0 hu).wd hS.shp.len (by omega) (by omega)
  have KC := fun u g1 c1 (ht : Tw u g1 T) (hu : Ext [] w u) => (tinsert_any (some ⟨g1, 0, none⟩) c1 T G h d hS hh hd u ht.wd (hTb.keep0 hu)).mono (fun _ _ hp => ins_f hp)
  have HS := hid hS
  have HT := hid hT
  have HR := hid hR
  have HZ := hid hz
  have HNe := hid (row_ne hR hT).2
  clear hS hT hR hTb hE0 hro
  go_enter Tryd.func27, Tryd.ntmps27
  go_wp2_with fail
  try rw [hW0]
  try simp only [hz]
  clear hW0 hz
  go_wp2_with fail
  go_region_held3 (fun w' => w'.cell? ⟨z, 2, none⟩ = some (.int .u64 (h : Nat)) ∧ w'.cell? ⟨z, 3, none⟩ = some (.int .u64 (d : Nat)))
    (first | exact ⟨(hX1.trans hX2).cell hs1 (by simp), (hX1.trans hX2).cell hs2 (by simp)⟩ | exact ⟨hX1.cell hs1 (by simp), hX1.cell hs2 (by simp)⟩ | go_keep)
    (first | (go_at_call 12; refine (KO _ hxd).mono ?_; rintro e u1 ⟨g1, cc1, rfl, hTw1, hg1, hX1⟩) | (go_at_call 16; refine (KC u1 g1 cc1 hTw1 (hxd.trans hX1)).mono ?_; rintro e u2 ⟨va, vn, vc, er, rfl, hX2, hres⟩) | fail "no arm")
  have hs1' := (hX1.trans hX2).cell hs1 (by simp)
  have hs2' := (hX1.trans hX2).cell hs2 (by simp)
  have HX2 := hid ((hxd.trans hX1).trans hX2)
  have h1z : w.heap.size ≤ u1.heap.size := (hxd.trans hX1).size
  have K2 := rins_any p q cq G h d T u2 (HR.out.keep0 HX2.out) HS.out.shp.gp hh
  clear KO KC hX1 hX2 hTw1 hg1 hxd hs1 hs2 hs0
  go_wp2_with fail
  refine K2.mono ?_
  clear K2
  rintro e w3 ⟨hI, hX3⟩
  have HX3 := hid ((HX2.out.mono (by simp)).trans hX3)
  have HB := ins_both HS.out hh hd hres.out hI
  clear hI
  rcases HB with ⟨T', g', x, hS', hf, hTw, hg', rfl, hR'⟩ | ⟨hf, rfl, hR'⟩
  · have hf2 : va = some ⟨g', 0, none⟩ ∧ vn = 3 + 17 * G ∧ vc = x ∧ er = 0 := by simpa [and_assoc] using hf
    obtain ⟨rfl, rfl, rfl, rfl⟩ := hf2
    have HF := hid (show StPost w g p q (.returned (.tuple #[.slice (some ⟨g', 0, none⟩) (3 + 17 * G) vc, .pointer (some ⟨p, 0, none⟩), .bool true])) w3 from
      ⟨HX3.out, T', G, g', vc, p, q, cq, rfl, hS', hTw.keep hX3 (by simpa using (row_ne (HR.out.keep0 HX2.out) hTw).2), hR', .inr (Nat.le_trans h1z hg'), .inl rfl, .inl rfl⟩)
    clear hf hTw hR' hS' hg' hres hX3 hs1' hs2'
    go_wp2
    try simp only [Exit.inBlock, Exit.then]
    refine bodyPost_ret (results_tmp3 rfl _ _ _) rfl ?_
    exact HF.out
  · have hf2 : va = none ∧ vn = 0 ∧ vc = 0 ∧ er = 7 := by simpa [and_assoc] using hf
    obtain ⟨rfl, rfl, rfl, rfl⟩ := hf2
    have HF := hid (show StPost w g p q (.returned (.tuple #[.slice (some ⟨g, 0, none⟩) (3 + 17 * G) c, .pointer (some ⟨p, 0, none⟩), .bool true])) w3 from
      ⟨HX3.out, T, G, g, c, p, q, cq, rfl, HS.out, HT.out.keep HX3.out (by simpa using HNe.out), hR', .inl rfl, .inl rfl, .inl rfl⟩)
    clear hf hR' hres hX3 hs1' hs2'
    go_wp2
    try simp only [Exit.inBlock, Exit.then]
    refine bodyPost_ret (results_tmp3 rfl _ _ _) rfl ?_
    exact HF.out
end Go.Proofs.YtkknadkcpndnaaaDoor.Rf

/-
  One call on both tables: Find and Grow; no statement is proved here.
-/
namespace Go.Proofs.YtkknadkcpndnaaaDoor.Rf
open Go.RowKit Go.Shelf
open Pr (Gp GpI sq)
attribute [local go_sem] Oper.semAt_some run_store_func

set_option maxRecDepth 100000 in
set_option maxHeartbeats 4000000 in
theorem step_find (T : List Nat) (G g c p q cq : Nat) (k M : Int) (h d : Nat) (hk1 : ((k : Int) == 1) = false) (hk2 : ((k : Int) == 2) = true) (hS : Sd T G) (hh : h < 18446744073709551616) (w : World) (hT : Tw w g T) (hR : Rt w p q cq G T) (hTb : Tb w) :
    Calls Tryd.prog 27 #[.slice (some ⟨g, 0, none⟩) (3 + 17 * G) c, .pointer (some ⟨p, 0, none⟩), .agg #[.int .i64 k, .int .i64 M, .int .u64 (h : Nat), .int .u64 (d : Nat)]] w (StPost w g p q) := by
  have hG := hS.shp.gp.le
  obtain ⟨z, hz⟩ : ∃ z, w.heap.size = z := ⟨_, rfl⟩
  obtain ⟨W0, hW0⟩ : ∃ W0, w.alloc (.cells #[.int .i64 k, .int .i64 M, .int .u64 (h : Nat), .int .u64 (d : Nat)] 25) = W0 := ⟨_, rfl⟩
  have hro : W0.heap[z]? = some (.cells #[.int .i64 k, .int .i64 M, .int .u64 (h : Nat), .int .u64 (d : Nat)] 25 (0, 0)) := by rw [← hW0, ← hz]; exact heap_alloc_new w _
  have hE0 : Ext [] w W0 := by rw [← hW0]; exact Ext.alloc [] w _
  have hs0 : W0.cell? ⟨z, 0, none⟩ = some (.int .i64 k) := by rw [cell_of_row _ _ _ _ _ _ hro]; rfl
  have hsm : W0.cell? ⟨z, 1, none⟩ = some (.int .i64 M) := by rw [cell_of_row _ _ _ _ _ _ hro]; rfl
  have hsh : W0.cell? ⟨z, 2, none⟩ = some (.int .u64 (h : Nat)) := by rw [cell_of_row _ _ _ _ _ _ hro]; rfl
  obtain ⟨n, hn⟩ : ∃ n, (fnd T h G).length = n := ⟨_, rfl⟩
  have hnb : n ≤ 8 * G := by rw [← hn]; exact fnd_len hS.shp.gp
  have K0 := found_w g c G h n T hS hh hn W0 (hT.keep0 hE0) (hTb.keep0 hE0)
  have HS := hid hS
  have HT := hid hT
  have HR := hid hR
  have HN := hid hn
  have HE0 := hid hE0
  clear hS hT hR hTb hn hE0
  go_enter Tryd.func27, Tryd.ntmps27
  go_wp2_with fail
  try rw [hW0]
  try simp only [hz]
  clear hW0 hz hro
  go_wp2_with fail
  refine K0.mono ?_
  clear K0
  rintro _ w1 ⟨la, lc, rfl, hL, hX1⟩
  have hsh1 := hX1.cell hsh (by simp)
  have K1 := rfind_any p q cq G h T w1 (HR.out.keep0 (HE0.out.trans hX1)) HS.out.shp.gp hh
  rw [find_agree HS.out] at K1
  have HX1 := hid (HE0.out.trans hX1)
  have HL := hid hL
  clear hL hX1 hs0 hsm hsh
  go_wp2_with fail
  refine K1.mono ?_
  clear K1
  rintro _ w2 ⟨v, rfl, ho, hX2⟩
  obtain ⟨va, vc, rfl, _⟩ := own_slice ho
  rw [HN.out] at ho ⊢
  have K2 := sameWords_true la va n lc vc (fnd T h G) w2 (HL.out.keep0 hX2) (own_vs ho) HN.out (by omega)
  have HX2 := hid (HX1.out.trans hX2)
  clear ho hX2
  go_wp2_with fail
  refine K2.mono ?_
  clear K2
  rintro _ w3 ⟨rfl, hX3⟩
  have HF := hid (show StPost w g p q (.returned (.tuple #[.slice (some ⟨g, 0, none⟩) (3 + 17 * G) c, .pointer (some ⟨p, 0, none⟩), .bool true])) w3 from
    ⟨(HX2.out.trans hX3).mono (by simp), T, G, g, c, p, q, cq, rfl, HS.out, HT.out.keep0 (HX2.out.trans hX3), HR.out.keep0 (HX2.out.trans hX3), .inl rfl, .inl rfl, .inl rfl⟩)
  clear hX3
  go_wp2
  try simp only [Exit.inBlock, Exit.then]
  refine bodyPost_ret (results_tmp3 rfl _ _ _) rfl ?_
  exact HF.out
set_option maxRecDepth 100000 in
set_option maxHeartbeats 4000000 in
theorem step_bad (T : List Nat) (G g c p q cq : Nat) (k M : Int) (h d : Nat) (hk1 : ((k : Int) == 1) = false) (hk2 : ((k : Int) == 2) = false) (hk3 : ((k : Int) == 3) = true) (hS : Sd T G) (hM : ¬ GpI M) (w : World) (hT : Tw w g T) (hR : Rt w p q cq G T) :
    Calls Tryd.prog 27 #[.slice (some ⟨g, 0, none⟩) (3 + 17 * G) c, .pointer (some ⟨p, 0, none⟩), .agg #[.int .i64 k, .int .i64 M, .int .u64 (h : Nat), .int .u64 (d : Nat)]] w (StPost w g p q) := by
  have hG := hS.shp.gp.le
  obtain ⟨z, hz⟩ : ∃ z, w.heap.size = z := ⟨_, rfl⟩
  obtain ⟨W0, hW0⟩ : ∃ W0, w.alloc (.cells #[.int .i64 k, .int .i64 M, .int .u64 (h : Nat), .int .u64 (d : Nat)] 25) = W0 := ⟨_, rfl⟩
  have hro : W0.heap[z]? = some (.cells #[.int .i64 k, .int .i64 M, .int .u64 (h : Nat), .int .u64 (d : Nat)] 25 (0, 0)) := by rw [← hW0, ← hz]; exact heap_alloc_new w _
  have hE0 : Ext [] w W0 := by rw [← hW0]; exact Ext.alloc [] w _
  have hs0 : W0.cell? ⟨z, 0, none⟩ = some (.int .i64 k) := by rw [cell_of_row _ _ _ _ _ _ hro]; rfl
  have hsm : W0.cell? ⟨z, 1, none⟩ = some (.int .i64 M) := by rw [cell_of_row _ _ _ _ _ _ hro]; rfl
  have hsh : W0.cell? ⟨z, 2, none⟩ = some (.int .u64 (h : Nat)) := by rw [cell_of_row _ _ _ _ _ _ hro]; rfl
  have hxd : Ext [] w W0.drew := hE0.trans (Ext.drew [] W0)
  have hs1 : (W0.drew).cell? ⟨z, 1, none⟩ = some (.int .i64 M) := hsm
  have KO := fun u (hu : Ext [] w u) => ownT_any (some ⟨g, 0, none⟩) (3 + 17 * G) c T u (hT.keep0 hu).wd hS.shp.len (by omega) (by omega)
  have KC := fun u g1 c1 (ht : Tw u g1 T) => tgrow_bad (some ⟨g1, 0, none⟩) c1 T G M hS hM u ht.wd
  have HS := hid hS
  have HT := hid hT
  have HR := hid hR
  have HM := hid hM
  clear hS hT hR hM hE0
  go_enter Tryd.func27, Tryd.ntmps27
  go_wp2_with fail
  try rw [hW0]
  try simp only [hz]
  clear hW0 hz hro
  go_wp2_with fail
  go_region_held3 (fun w' => w'.cell? ⟨z, 1, none⟩ = some (.int .i64 M))
    (first | exact (hX1.trans hX2).cell hs1 (by simp) | exact hX1.cell hs1 (by simp) | go_keep)
    (first | (go_at_call 12; refine (KO _ hxd).mono ?_; rintro e u1 ⟨g1, cc1, rfl, hTw1, hg1, hX1⟩) | (go_at_call 18; refine (KC u1 g1 cc1 hTw1).mono ?_; rintro _ u2 ⟨rfl, hX2⟩) | fail "no arm")
  have hs1' := (hX1.trans hX2).cell hs1 (by simp)
  have HX2 := hid ((hxd.trans hX1).trans hX2)
  have K2 := rgrow_bad p M u2 HM.out
  clear KO KC hX1 hX2 hTw1 hg1 hxd hs1 hs0 hsm hsh
  go_wp2_with fail
  refine met K2 ?_
  clear K2
  have HF := hid (show StPost w g p q (.returned (.tuple #[.slice (some ⟨g, 0, none⟩) (3 + 17 * G) c, .pointer (some ⟨p, 0, none⟩), .bool true])) u2 from
    ⟨HX2.out.mono (by simp), T, G, g, c, p, q, cq, rfl, HS.out, HT.out.keep0 HX2.out, HR.out.keep0 HX2.out, .inl rfl, .inl rfl, .inl rfl⟩)
  go_wp2
  try simp only [Exit.inBlock, Exit.then]
  refine bodyPost_ret (results_tmp3 rfl _ _ _) rfl ?_
  exact HF.out
theorem grow_f {T : List Nat} {G M : Nat} {w w' : World} {e : Ending} (hP : TGwPost T G M w e w') : ∃ va vn vc er, e = .returned (.tuple #[.slice va vn vc, .int .i64 er]) ∧ Ext [] w w' ∧ Hid (TGwPost T G M w (.returned (.tuple #[.slice va vn vc, .int .i64 er])) w') := by
  have hP' := hP
  rcases hP.2 with ⟨X, g, c, hI, rfl, hTw, hg⟩ | ⟨_, rfl⟩
  · exact ⟨_, _, _, _, rfl, hP.1, hP'⟩
  · exact ⟨_, _, _, _, rfl, hP.1, hP'⟩
set_option maxRecDepth 100000 in
set_option maxHeartbeats 4000000 in
theorem step_grow (T : List Nat) (G g c p q cq : Nat) (k : Int) (M : Nat) (h d : Nat) (hk1 : ((k : Int) == 1) = false) (hk2 : ((k : Int) == 2) = false) (hk3 : ((k : Int) == 3) = true) (hS : Sd T G) (hM : Gp M) (w : World) (hT : Tw w g T) (hR : Rt w p q cq G T) (hTb : Tb w) :
    Calls Tryd.prog 27 #[.slice (some ⟨g, 0, none⟩) (3 + 17 * G) c, .pointer (some ⟨p, 0, none⟩), .agg #[.int .i64 k, .int .i64 (M : Nat), .int .u64 (h : Nat), .int .u64 (d : Nat)]] w (StPost w g p q) := by
  have hG := hS.shp.gp.le
  obtain ⟨z, hz⟩ : ∃ z, w.heap.size = z := ⟨_, rfl⟩
  obtain ⟨W0, hW0⟩ : ∃ W0, w.alloc (.cells #[.int .i64 k, .int .i64 (M : Nat), .int .u64 (h : Nat), .int .u64 (d : Nat)] 25) = W0 := ⟨_, rfl⟩
  have hro : W0.heap[z]? = some (.cells #[.int .i64 k, .int .i64 (M : Nat), .int .u64 (h : Nat), .int .u64 (d : Nat)] 25 (0, 0)) := by rw [← hW0, ← hz]; exact heap_alloc_new w _
  have hE0 : Ext [] w W0 := by rw [← hW0]; exact Ext.alloc [] w _
  have hs0 : W0.cell? ⟨z, 0, none⟩ = some (.int .i64 k) := by rw [cell_of_row _ _ _ _ _ _ hro]; rfl
  have hsm : W0.cell? ⟨z, 1, none⟩ = some (.int .i64 (M : Nat)) := by rw [cell_of_row _ _ _ _ _ _ hro]; rfl
  have hsh : W0.cell? ⟨z, 2, none⟩ = some (.int .u64 (h : Nat)) := by rw [cell_of_row _ _ _ _ _ _ hro]; rfl
  have hMl := hM.le
  have hxd : Ext [] w W0.drew := hE0.trans (Ext.drew [] W0)
  have hs1 : (W0.drew).cell? ⟨z, 1, none⟩ = some (.int .i64 (M : Nat)) := hsm
  have KO := fun u (hu : Ext [] w u) => ownT_any (some ⟨g, 0, none⟩) (3 + 17 * G) c T u (hT.keep0 hu).wd hS.shp.len (by omega) (by omega)
  have KC := fun u g1 c1 (ht : Tw u g1 T) (hu : Ext [] w u) => (tgrow_any (some ⟨g1, 0, none⟩) c1 T G M hS hM u ht.wd (hTb.keep0 hu)).mono (fun _ _ hp => grow_f hp)
  have HS := hid hS
  have HT := hid hT
  have HR := hid hR
  have HM := hid hM
  clear hS hT hR hM hTb hE0
  go_enter Tryd.func27, Tryd.ntmps27
  go_wp2_with fail
  try rw [hW0]
  try simp only [hz]
  clear hW0 hz hro
  go_wp2_with fail
  go_region_held3 (fun w' => w'.cell? ⟨z, 1, none⟩ = some (.int .i64 (M : Nat)))
    (first | exact (hX1.trans hX2).cell hs1 (by simp) | exact hX1.cell hs1 (by simp) | go_keep)
    (first | (go_at_call 12; refine (KO _ hxd).mono ?_; rintro e u1 ⟨g1, cc1, rfl, hTw1, hg1, hX1⟩) | (go_at_call 18; refine (KC u1 g1 cc1 hTw1 (hxd.trans hX1)).mono ?_; rintro e u2 ⟨va, vn, vc, er, rfl, hX2, hres⟩) | fail "no arm")
  have hs1' := (hX1.trans hX2).cell hs1 (by simp)
  have HX2 := hid ((hxd.trans hX1).trans hX2)
  have h1z : w.heap.size ≤ u1.heap.size := (hxd.trans hX1).size
  have hR2 := HR.out.keep0 HX2.out
  clear KO KC hX1 hX2 hTw1 hg1 hxd hs1 hs0 hsm hsh
  rcases hres.out.2 with ⟨X, gx, cx, hF, hf, hTx, hgx⟩ | ⟨hfull, hf⟩
  · have hf2 : va = some ⟨gx, 0, none⟩ ∧ vn = 3 + 17 * M ∧ vc = cx ∧ er = 0 := by simpa [and_assoc] using hf
    obtain ⟨rfl, rfl, rfl, rfl⟩ := hf2
    have hn : nfl T G ≤ 7 * M := by
      have h1 := hF.nd
      rw [ents_tot] at h1
      omega
    have K2 := rgrow_ok p q cq G M T u2 hR2 HS.out HM.out hn
    have HFi := hid hF
    have HTx := hid hTx
    clear hF hTx hn hR2 hf hres
    go_wp2_with fail
    refine K2.mono ?_
    clear K2
    rintro _ w3 ⟨p1, q1, X2, rfl, hRx, hF2, hp1, hq1, hX3⟩
    obtain rfl := fil_det HFi.out hF2
    have hsz := HX2.out.size
    have HF := hid (show StPost w g p q (.returned (.tuple #[.slice (some ⟨gx, 0, none⟩) (3 + 17 * M) vc, .pointer (some ⟨p1, 0, none⟩), .bool true])) w3 from
      ⟨(HX2.out.trans hX3).mono (by simp), X, M, gx, vc, p1, q1, _, rfl, HFi.out.sd, HTx.out.keep0 hX3, hRx, .inr (Nat.le_trans h1z hgx), .inr (Nat.le_trans hsz hp1), .inr (Nat.le_trans hsz hq1)⟩)
    clear hX3 hF2 hRx hp1 hq1 hs1'
    go_wp2
    try simp only [Exit.inBlock, Exit.then]
    refine bodyPost_ret (results_tmp3 rfl _ _ _) rfl ?_
    exact HF.out
  · have hf2 : va = none ∧ vn = 0 ∧ vc = 0 ∧ er = 7 := by simpa [and_assoc] using hf
    obtain ⟨rfl, rfl, rfl, rfl⟩ := hf2
    have hn : 7 * M < nfl T G := by rw [← HS.out.cnt]; exact hfull
    have K2 := rgrow_full p q cq G M T u2 hR2 HS.out HM.out hn
    clear hfull hn hR2 hf hres
    go_wp2_with fail
    refine K2.mono ?_
    clear K2
    rintro _ w3 ⟨rfl, hX3⟩
    have HF := hid (show StPost w g p q (.returned (.tuple #[.slice (some ⟨g, 0, none⟩) (3 + 17 * G) c, .pointer (some ⟨p, 0, none⟩), .bool true])) w3 from
      ⟨(HX2.out.trans hX3).mono (by simp), T, G, g, c, p, q, cq, rfl, HS.out, HT.out.keep0 (HX2.out.trans hX3), HR.out.keep0 (HX2.out.trans hX3), .inl rfl, .inl rfl, .inl rfl⟩)
    clear hX3 hs1'
    go_wp2
    try simp only [Exit.inBlock, Exit.then]
    refine bodyPost_ret (results_tmp3 rfl _ _ _) rfl ?_
    exact HF.out
/-- A call on both leaves both alike. -/
theorem step_any (T : List Nat) (G g c p q cq : Nat) (k M : Int) (h d : Nat) (hS : Sd T G) (hh : h < 18446744073709551616) (hd : d < 18446744073709551616) (w : World) (hT : Tw w g T) (hR : Rt w p q cq G T) (hTb : Tb w) :
    Calls Tryd.prog 27 #[.slice (some ⟨g, 0, none⟩) (3 + 17 * G) c, .pointer (some ⟨p, 0, none⟩), .agg #[.int .i64 k, .int .i64 M, .int .u64 (h : Nat), .int .u64 (d : Nat)]] w (StPost w g p q) := by
  by_cases h1 : k = 1
  · exact step_del T G g c p q cq k M h d (by simp [h1]) hS hh hd w hT hR hTb
  · have h1' : ((k : Int) == 1) = false := by simpa using h1
    by_cases h2 : k = 2
    · exact step_find T G g c p q cq k M h d h1' (by simp [h2]) hS hh w hT hR hTb
    · have h2' : ((k : Int) == 2) = false := by simpa using h2
      by_cases h3 : k = 3
      · by_cases hM : GpI M
        · obtain ⟨m, rfl, hm⟩ := hM
          exact step_grow T G g c p q cq k m h d h1' h2' (by simp [h3]) hS hm w hT hR hTb
        · exact step_bad T G g c p q cq k M h d h1' h2' (by simp [h3]) hS hM w hT hR
      · exact step_ins T G g c p q cq k M h d h1' h2' (by simpa using h3) hS hh hd w hT hR hTb
end Go.Proofs.YtkknadkcpndnaaaDoor.Rf
