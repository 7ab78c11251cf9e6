/-
  RfY: joined by program; no statement is proved here.
-/
import Derived.Test.YtkknadkcpndnaaaDoorZWE
/-
  The walk of TableWords: words that are a table; no statement is proved here.
-/
namespace Go.Proofs.YtkknadkcpndnaaaDoor.Rf
open Go.RowKit Go.Shelf
open Pr (Gp GpI sq)
attribute [local go_sem] Oper.semAt_some run_store_func

/-- Hashes and ids of slots by turns. -/
def fls (L : List (Nat × Nat × Nat)) : List Nat := L.flatMap fun s => [s.2.1, s.2.2]
theorem fls_len (L : List (Nat × Nat × Nat)) : (fls L).length = 2 * L.length := by
  induction L with
  | nil => rfl
  | cons a L ih =>
    have : fls (a :: L) = [a.2.1, a.2.2] ++ fls L := rfl
    rw [this, List.length_append, ih, List.length_cons, List.length_cons, List.length_cons, List.length_nil]
    omega
theorem fls_ents (T : List Nat) (G : Nat) : fls (asl T (8 * G)) = flat2 (ents T G) := by
  rw [← asl_ents]
  unfold fls flat2
  rw [List.flatMap_map]
theorem fls_take {L : List (Nat × Nat × Nat)} {i x y z : Nat} (h : L[i]? = some (x, y, z)) : fls (L.take (i + 1)) = fls (L.take i) ++ [y, z] := by
  rw [List.take_add_one, h]
  simp [fls]
set_option maxRecDepth 100000 in
set_option maxHeartbeats 4000000 in
theorem flat_any (base : Nat) (a : Option Addr) (n c : Nat) (L : List (Nat × Nat × Nat)) (w : World) (hO : w.ownsRow base 80 3 (.slice a n c) n (scl L)) (hn : L.length = n) (hnb : n ≤ 100000) :
    Calls Tryd.prog 22 #[.slice a n c] w (FdPost w (fls L)) := by
  have HO := hid hO
  have HN := hid hn
  clear hO hn
  go_enter Tryd.func22, Tryd.ntmps22
  go_wp2_with fail
  go_loopw [3, 4] (fun v u wr => ∃ i : Nat, u = .int .i64 i ∧ i ≤ n ∧ wr.ownsRow w.heap.size 23 1 v (2 * i) (vw (fls (L.take i))) ∧ Ext [] w wr) (fun _ u _ => (n - (intOf u)).toNat)
  case atStart => exact ⟨0, rfl, Nat.zero_le _, own_nil _ _ _ _, Ext.refl _ _⟩
  case round =>
    obtain ⟨i, rfl, hi, hOi, hEi⟩ := hrel
    by_cases hin : i < n
    · obtain ⟨⟨x, y, zz⟩, hs⟩ : ∃ s, L[i]? = some s := ⟨_, List.getElem?_eq_getElem (by rw [HN.out]; exact hin)⟩
      obtain ⟨b, rfl, s1, s2⟩ := scl_at (own_keep0 HO.out hEi) hs
      have hE1 := (Ext.alloc [] wr (.cells #[.int .u64 (y : Nat), .int .u64 (zz : Nat)] 23)).trans (Ext.drew [] _)
      have hV := (vs_new wr 23 [.int .u64 (y : Nat), .int .u64 (zz : Nat)]).keep0 (Ext.drew [] _)
      have hqs : b < wr.heap.size := block_lt_of_cell s1
      obtain ⟨v', w', hr, hO', hE', _⟩ := app_own _ _ (hEi.trans hE1) 22 22 23 _ 8 Tryd.underlying22 info23 rfl (by omega) _ _ _ (own_keep0 hOi hE1) (some ⟨wr.heap.size, 0, none⟩) 2 2 _ rfl hV (by simp [Value.oneCell']) (by omega)
      obtain ⟨a0, c0, rfl, _⟩ := own_slice hOi
      obtain ⟨a1, c2, rfl, _⟩ := own_slice hO'
      have HTk := hid (fls_take hs)
      have HO' := hid hO'
      have HE' := hid hE'
      clear hO' hE' hE1 hV hOi hEi hs
      have hk2 : (i : Int) < (n : Int) := by omega
      have hk4 : (0 : Int) ≤ (i : Int) := by omega
      go_wp2_with fail
      apply region_cut
      case hr =>
        go_region_law (refine step_append_run rfl _ _ 22 rfl _ _ _ (by rfl) (by rfl) hr ?_)
        all_goals exact NoPanic.normal ⟨rfl, rfl, rfl⟩
      go_wp2
      go_roundw
      case rel => exact ⟨i + 1, by go_num, by omega, by have := HO'.out; rw [show 2 * (i + 1) = 2 * i + 2 by omega, HTk.out, vw_append]; exact this, HE'.out⟩
      case measure => simp [intOf]; omega
    · obtain rfl : i = n := by omega
      have hll : (fls L).length = 2 * i := by rw [fls_len, HN.out]
      rw [List.take_of_length_le (by rw [HN.out]; exact Nat.le_refl _), ← hll] at hOi
      have HF := hid (And.intro hOi hEi)
      clear hOi hEi hll
      go_wp2
      go_ret
      exact ⟨_, rfl, HF.out.1, HF.out.2⟩
/-- What a call that makes a table answered: a table, or why not. -/
def ARes (P : Option (List Nat) → Prop) (fl len : Nat) (w : World) (va : Option Addr) (vn er : Nat) : Prop := (∃ T', P (some T') ∧ er = 0 ∧ vn = len ∧ Wd w va T') ∨ (P none ∧ er = fl ∧ vn = 0)
theorem ARes.keep0 {P : Option (List Nat) → Prop} {fl len : Nat} {w w' : World} {va : Option Addr} {vn er : Nat} (h : ARes P fl len w va vn er) (e : Ext [] w w') : ARes P fl len w' va vn er := by
  rcases h with ⟨T', a, b, c, d⟩ | h
  · exact .inl ⟨T', a, b, c, d.keep0 e⟩
  · exact .inr h
/-- Such a call. -/
def APost (P : Option (List Nat) → Prop) (fl len : Nat) (w : World) (e : Ending) (w' : World) : Prop := ∃ va vn vc er, e = .returned (.tuple #[.slice va vn vc, .int .i64 ((er : Nat) : Int)]) ∧ Ext [] w w' ∧ er ≤ 7 ∧ Hid (ARes P fl len w' va vn er)
theorem ins_a {T : List Nat} {G h d : Nat} {w w' : World} {e : Ending} (hP : TInsPost T G h d w e w') : APost (InsT T G h d) 7 (3 + 17 * G) w e w' := by
  rcases hP.2 with ⟨T', g, c, hI, rfl, hTw, _⟩ | ⟨hI, rfl⟩
  · exact ⟨_, _, _, 0, rfl, hP.1, by omega, .inl ⟨T', hI, rfl, rfl, hTw.wd⟩⟩
  · exact ⟨_, _, _, 7, rfl, hP.1, by omega, .inr ⟨hI, rfl, rfl⟩⟩
theorem del_a {T : List Nat} {G h d : Nat} {w w' : World} {e : Ending} (hP : TDelPost T G h d w e w') : APost (DelT T G h d) 4 (3 + 17 * G) w e w' := by
  rcases hP.2 with ⟨T', g, c, hI, rfl, hTw, _⟩ | ⟨hI, rfl⟩
  · exact ⟨_, _, _, 0, rfl, hP.1, by omega, .inl ⟨T', hI, rfl, rfl, hTw.wd⟩⟩
  · exact ⟨_, _, _, 4, rfl, hP.1, by omega, .inr ⟨hI, rfl, rfl⟩⟩
/-- What Grow's call makes. -/
def GrP (T : List Nat) (G M : Nat) : Option (List Nat) → Prop
  | some X => Fil X M (ents T G)
  | none => 7 * M < T.getD 1 0
theorem gro_a {T : List Nat} {G M : Nat} {w w' : World} {e : Ending} (hP : TGwPost T G M w e w') : APost (GrP T G M) 7 (3 + 17 * M) w e w' := by
  rcases hP.2 with ⟨X, g, c, hF, rfl, hTw, _⟩ | ⟨hI, rfl⟩
  · exact ⟨_, _, _, 0, rfl, hP.1, by omega, .inl ⟨X, hF, rfl, rfl, hTw.wd⟩⟩
  · exact ⟨_, _, _, 7, rfl, hP.1, by omega, .inr ⟨hI, rfl, rfl⟩⟩
theorem bad_a {w w' : World} {e : Ending} (hP : SayPost w (.tuple #[.slice none 0 0, .int .i64 2]) e w') : APost (fun O => O = none) 2 0 w e w' := by
  obtain ⟨rfl, hX⟩ := hP
  exact ⟨_, _, _, 2, rfl, hX, by omega, .inr ⟨rfl, rfl, rfl⟩⟩
set_option maxRecDepth 100000 in
set_option maxHeartbeats 16000000 in
theorem words_yes (b o c G : Nat) (T : List Nat) (k M : Int) (h d : Nat) (P : Option (List Nat) → Prop) (fl len : Nat) (hS : Sd T G) (hh : h < 18446744073709551616) (hd : d < 18446744073709551616) (w : World) (hT : Wd w (some ⟨b, o, none⟩) T) (hTb : Tb w)
    (KG : ∀ u a1 c1, Ext [] w u → Wd u a1 T → Calls Tryd.prog 18 #[.slice a1 (3 + 17 * G) c1, .int .i64 M] u (APost P fl len u))
    (KL : ∀ u va vn vc er, Ext [] w u → ARes P fl len u va vn er → Calls Tryd.prog 24 #[.slice va vn vc, .int .u64 (er : Nat), .slice (some ⟨b, o, none⟩) (3 + 17 * G) c, .agg #[.int .i64 k, .int .i64 M, .int .u64 (h : Nat), .int .u64 (d : Nat)], .int .i64 3] u (SayPost u (.bool true))) :
    Calls Tryd.prog 3 #[.slice (some ⟨b, o, none⟩) (3 + 17 * G) c, .agg #[.int .i64 k, .int .i64 M, .int .u64 (h : Nat), .int .u64 (d : Nat)]] w (SayPost w (.bool true)) := by
  have hG := hS.shp.gp.le
  have hlen := hS.shp.len
  obtain ⟨z, hz⟩ : ∃ z, w.heap.size = z := ⟨_, rfl⟩
  obtain ⟨W0, hW0⟩ : ∃ W0, w.alloc (.cells #[.int .i64 k, .int .i64 M, .int .u64 (h : Nat), .int .u64 (d : Nat)] 25) = W0 := ⟨_, rfl⟩
  have hro : W0.heap[z]? = some (.cells #[.int .i64 k, .int .i64 M, .int .u64 (h : Nat), .int .u64 (d : Nat)] 25 (0, 0)) := by rw [← hW0, ← hz]; exact heap_alloc_new w _
  have hE0 : Ext [] w W0 := by rw [← hW0]; exact Ext.alloc [] w _
  have hC0 : W0.cell? ⟨z, 0, none⟩ = some (.int .i64 k) ∧ W0.cell? ⟨z, 1, none⟩ = some (.int .i64 M) ∧ W0.cell? ⟨z, 2, none⟩ = some (.int .u64 (h : Nat)) ∧ W0.cell? ⟨z, 3, none⟩ = some (.int .u64 (d : Nat)) := ⟨by rw [cell_of_row _ _ _ _ _ _ hro]; rfl, by rw [cell_of_row _ _ _ _ _ _ hro]; rfl, by rw [cell_of_row _ _ _ _ _ _ hro]; rfl, by rw [cell_of_row _ _ _ _ _ _ hro]; rfl⟩
  have HC0 := hid (fun u (hu : Ext [] W0 u) => (⟨hu.cell hC0.1 (by simp), hu.cell hC0.2.1 (by simp), hu.cell hC0.2.2.1 (by simp), hu.cell hC0.2.2.2 (by simp)⟩ : u.cell? ⟨z, 0, none⟩ = some (.int .i64 k) ∧ u.cell? ⟨z, 1, none⟩ = some (.int .i64 M) ∧ u.cell? ⟨z, 2, none⟩ = some (.int .u64 (h : Nat)) ∧ u.cell? ⟨z, 3, none⟩ = some (.int .u64 (d : Nat))))
  have HS := hid hS
  have HT := hid (fun u (hu : Ext [] W0 u) => hT.keep0 (hE0.trans hu))
  have HTb := hid (fun u (hu : Ext [] W0 u) => hTb.keep0 (hE0.trans hu))
  have HKG := hid (fun u a1 c1 (hu : Ext [] W0 u) hw => KG u a1 c1 (hE0.trans hu) hw)
  have HKL := hid (fun u va vn vc er (hu : Ext [] W0 u) hw => KL u va vn vc er (hE0.trans hu) hw)
  have HX0 := hid hE0
  have HL := hid hlen
  have KA := awake_any W0
  obtain ⟨n1, hn1⟩ : ∃ n1, (fnd T h G).length = n1 := ⟨_, rfl⟩
  obtain ⟨n2, hn2⟩ : ∃ n2, (flat2 (ents T G)).length = n2 := ⟨_, rfl⟩
  have hb1 : n1 ≤ 8 * G := by rw [← hn1]; exact fnd_len hS.shp.gp
  have hb2 : n2 ≤ 2 * (8 * G) := by rw [← hn2, flat2_len]; have := ents_len T G; omega
  have hb3 : (asl T (8 * G)).length ≤ 8 * G := asl_len T (8 * G)
  obtain ⟨n3, hn3⟩ : ∃ n3, (asl T (8 * G)).length = n3 := ⟨_, rfl⟩
  rw [hn3] at hb3
  have hen := nfl_le T G
  rw [← hS.cnt] at hen
  obtain ⟨en, henq⟩ : ∃ en, T.getD 1 0 = en := ⟨_, rfl⟩
  have hkf : knt (fun x => decide (x < 128)) T (8 * G) = en := by rw [knt_full, ← hS.cnt, henq]
  rw [henq] at hen
  have HEq := hid henq
  clear henq
  have HN1 := hid hn1
  have HN2 := hid hn2
  have HN3 := hid hn3
  have HKf := hid hkf
  clear hS hT hTb KG KL hE0 hC0 hro hlen hn1 hn2 hn3 hkf
  go_enter Tryd.func3, Tryd.ntmps3
  go_wp2_with fail
  try rw [hW0]
  try simp only [hz]
  clear hW0 hz
  go_wp2_with fail
  refine KA.mono ?_
  clear KA
  rintro _ w1 ⟨rfl, hX1⟩
  have HY1 := hid hX1
  have K1 := rof_shp b o c T G HS.out.shp w1 (HT.out w1 hX1)
  clear hX1
  go_wp2_with fail
  refine K1.mono ?_
  clear K1
  rintro _ w2 ⟨hX2, ⟨_, p, q, cq, rfl, hR2, hp2, hq2⟩ | ⟨hno, _⟩⟩
  case inr => exact absurd HS.out hno
  have HR := hid (fun u (hu : Ext [] w2 u) => hR2.keep0 hu)
  have HY2 := hid (HY1.out.trans hX2)
  have K1 := ownT_any (some ⟨b, o, none⟩) (3 + 17 * G) c T w2 (HT.out w2 HY2.out) HL.out (by omega) (by omega)
  clear hX2 HY1 hR2
  go_wp2_with fail
  refine K1.mono ?_
  clear K1
  rintro _ w3 ⟨g3, c3, rfl, hW3, _, hX3⟩
  have HY3 := hid (HY2.out.trans hX3)
  have HZ3 := hid hX3
  have K1 := check_true (some ⟨g3, 0, none⟩) c3 T G HS.out w3 hW3.wd
  clear hX3 hW3
  go_wp2_with fail
  refine K1.mono ?_
  clear K1
  rintro _ w4 ⟨rfl, hX4⟩
  have HY4 := hid (HY3.out.trans hX4)
  have HZ4 := hid (HZ3.out.trans hX4)
  have K1 := ownT_any (some ⟨b, o, none⟩) (3 + 17 * G) c T w4 (HT.out w4 HY4.out) HL.out (by omega) (by omega)
  clear hX4 HY3 HZ3
  go_wp2_with fail
  refine K1.mono ?_
  clear K1
  rintro _ w5 ⟨g5, c5, rfl, hW5, _, hX5⟩
  have HY5 := hid (HY4.out.trans hX5)
  have HZ5 := hid (HZ4.out.trans hX5)
  have K1 := len_true (some ⟨g5, 0, none⟩) c5 T G HS.out w5 hW5.wd
  rw [HEq.out] at K1
  clear hX5 HY4 HZ4 hW5
  go_wp2_with fail
  refine K1.mono ?_
  clear K1
  rintro _ w6 ⟨rfl, hX6⟩
  have HY6 := hid (HY5.out.trans hX6)
  have HZ6 := hid (HZ5.out.trans hX6)
  obtain ⟨d0, d1, d2, d3⟩ := HC0.out w6 HY6.out
  have K1 := found_any (some ⟨b, o, none⟩) c T G h HS.out hh w6 (HT.out w6 HY6.out) (HTb.out w6 HY6.out)
  clear hX6 HY5 HZ5
  go_wp2_with fail
  refine K1.mono ?_
  clear K1 d0 d1 d2 d3
  rintro _ w7 ⟨v7, rfl, hL7, hX7⟩
  obtain ⟨la, lc, rfl, _⟩ := own_slice hL7
  rw [HN1.out] at hL7 ⊢
  have HL7 := hid (fun u (hu : Ext [] w7 u) => (own_vs (own_keep0 hL7 hu) : Wd u la (fnd T h G)))
  have HY7 := hid (HY6.out.trans hX7)
  have HZ7 := hid (HZ6.out.trans hX7)
  have K1 := pairs_any (some ⟨b, o, none⟩) c T G HS.out w7 (HT.out w7 HY7.out) (HTb.out w7 HY7.out)
  clear hX7 HY6 HZ6 hL7
  go_wp2_with fail
  refine K1.mono ?_
  clear K1
  rintro _ w8 ⟨v8, rfl, hL8, hX8⟩
  obtain ⟨pa, pc, rfl, _⟩ := own_slice hL8
  rw [HN2.out] at hL8 ⊢
  have HL8 := hid (fun u (hu : Ext [] w8 u) => (own_vs (own_keep0 hL8 hu) : Wd u pa (flat2 (ents T G))))
  have HY8 := hid (HY7.out.trans hX8)
  have HZ8 := hid (HZ7.out.trans hX8)
  have HQ8 := hid hX8
  have HV8 := hid (Ext.refl [] w8)
  clear hX8 HY7 HZ7 hL8
  have KO := fun u (hu : Ext [] w8 u) => ownT_any (some ⟨b, o, none⟩) (3 + 17 * G) c T u (HT.out u (HY8.out.trans hu)) HL.out (by omega) (by omega)
  have KC := fun u g1 c1 (ht : Tw u g1 T) (hu : Ext [] w8 u) => (tinsert_any (some ⟨g1, 0, none⟩) c1 T G h d HS.out hh hd u ht.wd (HTb.out u (HY8.out.trans hu))).mono (fun _ _ hp => ins_a hp)
  obtain ⟨_, d1, d2, d3⟩ := HC0.out w8 HY8.out
  have hs1 : (w8.drew).cell? ⟨z, 1, none⟩ = some (.int .i64 M) := d1
  have hs2 : (w8.drew).cell? ⟨z, 2, none⟩ = some (.int .u64 (h : Nat)) := d2
  have hs3 : (w8.drew).cell? ⟨z, 3, none⟩ = some (.int .u64 (d : Nat)) := d3
  have hxd := Ext.drew [] w8
  clear d1 d2 d3
  go_wp2_with fail
  go_region_held3 (fun w' => w'.cell? ⟨z, 1, none⟩ = some (.int .i64 M) ∧ w'.cell? ⟨z, 2, none⟩ = some (.int .u64 (h : Nat)) ∧ w'.cell? ⟨z, 3, none⟩ = some (.int .u64 (d : Nat)))
    (first | exact ⟨(hX1.trans hX2).cell hs1 (by simp), (hX1.trans hX2).cell hs2 (by simp), (hX1.trans hX2).cell hs3 (by simp)⟩ | exact ⟨hX1.cell hs1 (by simp), hX1.cell hs2 (by simp), hX1.cell hs3 (by simp)⟩ | go_keep)
    (first | (go_at_call 12; refine (KO _ hxd).mono ?_; rintro e u1 ⟨g1, c1, rfl, hW1, hg1, hX1⟩) | (go_at_call 16; refine (KC u1 g1 c1 hW1 (hxd.trans hX1)).mono ?_; rintro _ w9 ⟨xa, xn, xc, xe, rfl, hX2, hxe, hres⟩) | fail "no arm")
  have HY9 := hid (HY8.out.trans ((hxd.trans hX1).trans hX2))
  have HZ9 := hid (HZ8.out.trans ((hxd.trans hX1).trans hX2))
  have HQ9 := hid (HQ8.out.trans ((hxd.trans hX1).trans hX2))
  have HV9 := hid (HV8.out.trans ((hxd.trans hX1).trans hX2))
  have HA9 := hid (Ext.refl [] w9)
  have HRx := hid (fun u (hu : Ext [] w9 u) => hres.out.keep0 hu)
  have hwx := u64w (n := xe) (by omega)
  clear KO KC hs1 hs2 hs3 hxd hX1 hX2 hW1 hg1 hres HY8 HZ8 HQ8 HV8
  have KO := fun u (hu : Ext [] w9 u) => ownT_any (some ⟨b, o, none⟩) (3 + 17 * G) c T u (HT.out u (HY9.out.trans hu)) HL.out (by omega) (by omega)
  have KC := fun u g1 c1 (ht : Tw u g1 T) (hu : Ext [] w9 u) => (tdelete_any (some ⟨g1, 0, none⟩) c1 T G h d HS.out hh u ht.wd (HTb.out u (HY9.out.trans hu))).mono (fun _ _ hp => del_a hp)
  obtain ⟨_, d1, d2, d3⟩ := HC0.out w9 HY9.out
  have hs1 : (w9.drew).cell? ⟨z, 1, none⟩ = some (.int .i64 M) := d1
  have hs2 : (w9.drew).cell? ⟨z, 2, none⟩ = some (.int .u64 (h : Nat)) := d2
  have hs3 : (w9.drew).cell? ⟨z, 3, none⟩ = some (.int .u64 (d : Nat)) := d3
  have hxd := Ext.drew [] w9
  clear d1 d2 d3
  go_wp2_with fail
  go_region_held3 (fun w' => w'.cell? ⟨z, 1, none⟩ = some (.int .i64 M) ∧ w'.cell? ⟨z, 2, none⟩ = some (.int .u64 (h : Nat)) ∧ w'.cell? ⟨z, 3, none⟩ = some (.int .u64 (d : Nat)))
    (first | exact ⟨(hX1.trans hX2).cell hs1 (by simp), (hX1.trans hX2).cell hs2 (by simp), (hX1.trans hX2).cell hs3 (by simp)⟩ | exact ⟨hX1.cell hs1 (by simp), hX1.cell hs2 (by simp), hX1.cell hs3 (by simp)⟩ | go_keep)
    (first | (go_at_call 12; refine (KO _ hxd).mono ?_; rintro e u1 ⟨g1, c1, rfl, hW1, hg1, hX1⟩) | (go_at_call 17; refine (KC u1 g1 c1 hW1 (hxd.trans hX1)).mono ?_; rintro _ w10 ⟨ya, yn, yc, ye, rfl, hX2, hye, hres⟩) | fail "no arm")
  have HY10 := hid (HY9.out.trans ((hxd.trans hX1).trans hX2))
  have HZ10 := hid (HZ9.out.trans ((hxd.trans hX1).trans hX2))
  have HQ10 := hid (HQ9.out.trans ((hxd.trans hX1).trans hX2))
  have HV10 := hid (HV9.out.trans ((hxd.trans hX1).trans hX2))
  have HA10 := hid (HA9.out.trans ((hxd.trans hX1).trans hX2))
  have HB10 := hid (Ext.refl [] w10)
  have HRy := hid (fun u (hu : Ext [] w10 u) => hres.out.keep0 hu)
  have hwy := u64w (n := ye) (by omega)
  clear KO KC hs1 hs2 hs3 hxd hX1 hX2 hW1 hg1 hres HY9 HZ9 HQ9 HV9 HA9
  have KO := fun u (hu : Ext [] w10 u) => ownT_any (some ⟨b, o, none⟩) (3 + 17 * G) c T u (HT.out u (HY10.out.trans hu)) HL.out (by omega) (by omega)
  have KC := fun u g1 c1 (ht : Tw u g1 T) (hu : Ext [] w10 u) => HKG.out u (some ⟨g1, 0, none⟩) c1 (HY10.out.trans hu) ht.wd
  obtain ⟨_, d1, d2, d3⟩ := HC0.out w10 HY10.out
  have hs1 : (w10.drew).cell? ⟨z, 1, none⟩ = some (.int .i64 M) := d1
  have hs2 : (w10.drew).cell? ⟨z, 2, none⟩ = some (.int .u64 (h : Nat)) := d2
  have hs3 : (w10.drew).cell? ⟨z, 3, none⟩ = some (.int .u64 (d : Nat)) := d3
  have hxd := Ext.drew [] w10
  clear d1 d2 d3
  go_wp2_with fail
  go_region_held3 (fun w' => w'.cell? ⟨z, 1, none⟩ = some (.int .i64 M) ∧ w'.cell? ⟨z, 2, none⟩ = some (.int .u64 (h : Nat)) ∧ w'.cell? ⟨z, 3, none⟩ = some (.int .u64 (d : Nat)))
    (first | exact ⟨(hX1.trans hX2).cell hs1 (by simp), (hX1.trans hX2).cell hs2 (by simp), (hX1.trans hX2).cell hs3 (by simp)⟩ | exact ⟨hX1.cell hs1 (by simp), hX1.cell hs2 (by simp), hX1.cell hs3 (by simp)⟩ | go_keep)
    (first | (go_at_call 12; refine (KO _ hxd).mono ?_; rintro e u1 ⟨g1, c1, rfl, hW1, hg1, hX1⟩) | (go_at_call 18; refine (KC u1 g1 c1 hW1 (hxd.trans hX1)).mono ?_; rintro _ w11 ⟨va, vn, vc, ve, rfl, hX2, hve, hres⟩) | fail "no arm")
  have HY11 := hid (HY10.out.trans ((hxd.trans hX1).trans hX2))
  have HZ11 := hid (HZ10.out.trans ((hxd.trans hX1).trans hX2))
  have HQ11 := hid (HQ10.out.trans ((hxd.trans hX1).trans hX2))
  have HV11 := hid (HV10.out.trans ((hxd.trans hX1).trans hX2))
  have HA11 := hid (HA10.out.trans ((hxd.trans hX1).trans hX2))
  have HB11 := hid (HB10.out.trans ((hxd.trans hX1).trans hX2))
  have HD11 := hid (Ext.refl [] w11)
  have HRv := hid (fun u (hu : Ext [] w11 u) => hres.out.keep0 hu)
  have hwv := u64w (n := ve) (by omega)
  clear KO KC hs1 hs2 hs3 hxd hX1 hX2 hW1 hg1 hres HY10 HZ10 HQ10 HV10 HA10 HB10
  have K1 := rlen_any p q cq G T w11 (HR.out w11 HZ11.out) hG
  rw [HKf.out] at K1
  obtain ⟨d0, d1, d2, d3⟩ := HC0.out w11 HY11.out
  go_wp2_with fail
  refine met K1 ?_
  clear K1
  have K1 := rfind_any p q cq G h T w11 (HR.out w11 HZ11.out) HS.out.shp.gp hh
  rw [find_agree HS.out] at K1
  go_wp2_with fail
  refine K1.mono ?_
  clear K1 d0 d1 d2 d3
  rintro _ w12 ⟨v12, rfl, hO, hX12⟩
  obtain ⟨fa, fc, rfl, _⟩ := own_slice hO
  rw [HN1.out] at hO ⊢
  have HD12 := hid hX12
  have K1 := sameWords_true la fa n1 lc fc (fnd T h G) w12 (HL7.out w12 (HQ11.out.trans hX12)) (own_vs hO) HN1.out (by omega)
  clear hO hX12
  go_wp2_with fail
  refine K1.mono ?_
  clear K1
  rintro _ w13 ⟨rfl, hX13⟩
  have HD13 := hid (HD12.out.trans hX13)
  have K1 := rall_any p q cq G T w13 (HR.out w13 (HZ11.out.trans HD13.out)) hG
  clear hX13 HD12
  go_wp2_with fail
  refine K1.mono ?_
  clear K1
  rintro _ w14 ⟨v14, rfl, hO, hX14⟩
  obtain ⟨fa, fc, rfl, _⟩ := own_slice hO
  rw [HN3.out] at hO ⊢
  have K1 := flat_any w13.heap.size fa n3 fc (asl T (8 * G)) w14 hO HN3.out (by omega)
  rw [fls_ents] at K1
  have HD14 := hid (HD13.out.trans hX14)
  clear hO hX14 HD13
  go_wp2_with fail
  refine K1.mono ?_
  clear K1
  rintro _ w15 ⟨v15, rfl, hO, hX15⟩
  obtain ⟨ga, gc, rfl, _⟩ := own_slice hO
  rw [HN2.out] at hO ⊢
  have HD15 := hid (HD14.out.trans hX15)
  have K1 := sameWords_true pa ga n2 pc gc (flat2 (ents T G)) w15 (HL8.out w15 (HV11.out.trans HD15.out)) (own_vs hO) HN2.out (by omega)
  clear hO hX15 HD14
  go_wp2_with fail
  refine K1.mono ?_
  clear K1
  rintro _ w16 ⟨rfl, hX16⟩
  have HD16 := hid (HD15.out.trans hX16)
  clear hX16 HD15
  obtain ⟨d0, d1, d2, d3⟩ := HC0.out w16 (HY11.out.trans HD16.out)
  have K1 := alike_ins T G b o c xa xn xc xe k M h d HS.out hh hd w16 (HT.out w16 (HY11.out.trans HD16.out)) (HRx.out w16 (HA11.out.trans HD16.out))
  go_wp2_with fail
  refine K1.mono ?_
  clear K1 d0 d1 d2 d3
  rintro _ w17 ⟨rfl, hX17⟩
  have HD17 := hid (HD16.out.trans hX17)
  clear hX17 HD16
  obtain ⟨d0, d1, d2, d3⟩ := HC0.out w17 (HY11.out.trans HD17.out)
  have K1 := alike_del T G b o c ya yn yc ye k M h d HS.out hh hd w17 (HT.out w17 (HY11.out.trans HD17.out)) (HRy.out w17 (HB11.out.trans HD17.out))
  go_wp2_with fail
  refine K1.mono ?_
  clear K1 d0 d1 d2 d3
  rintro _ w18 ⟨rfl, hX18⟩
  have HD18 := hid (HD17.out.trans hX18)
  clear hX18 HD17
  obtain ⟨d0, d1, d2, d3⟩ := HC0.out w18 (HY11.out.trans HD18.out)
  have K1 := HKL.out w18 va vn vc ve (HY11.out.trans HD18.out) (HRv.out w18 HD18.out)
  go_wp2_with fail
  refine K1.mono ?_
  clear K1 d0 d1 d2 d3
  rintro _ w19 ⟨rfl, hX19⟩
  have HF := hid ((HX0.out.trans (HY11.out.trans HD18.out)).trans hX19)
  clear hX19 HD18
  go_wp2
  go_ret
  exact ⟨rfl, HF.out⟩
end Go.Proofs.YtkknadkcpndnaaaDoor.Rf
