/-
  RfK, RfL: joined by program; no statement is proved here.
-/
import Derived.Test.YtkfagfdefkaenaaDoorZPC
/-
  All that the document's table holds; no statement is proved here.
-/
namespace Go.Proofs.YtkfagfdefkaenaaDoor.Rf
open Go.RowKit Go.Shelf
open Pr (Gp GpI sq pl pl_step pl_lt pl_zero sq_len sq_take sq_at)
attribute [local go_sem] Oper.semAt_some run_store_func

/-- The full slots among the first k. -/
def asl (T : List Nat) (k : Nat) : List (Nat × Nat × Nat) := ((List.range k).map (sT T)).filter fun s => decide (s.1 < 128)
def scl (L : List (Nat × Nat × Nat)) : List Value := L.flatMap fun s => [.int .u8 (s.1 : Nat), .int .u64 (s.2.1 : Nat), .int .u64 (s.2.2 : Nat)]
theorem scl_app (A B : List (Nat × Nat × Nat)) : scl (A ++ B) = scl A ++ scl B := by simp [scl]
theorem scl_len (L : List (Nat × Nat × Nat)) : (scl L).length = L.length * 3 := by
  induction L with
  | nil => rfl
  | cons a L ih =>
    have : scl (a :: L) = [.int .u8 (a.1 : Nat), .int .u64 (a.2.1 : Nat), .int .u64 (a.2.2 : Nat)] ++ scl L := rfl
    rw [this, List.length_append, ih, List.length_cons]
    simp
    omega
theorem asl_succ (T : List Nat) (k : Nat) : asl T (k + 1) = asl T k ++ if (sT T k).1 < 128 then [sT T k] else [] := by
  unfold asl
  rw [List.range_succ, List.map_append, List.filter_append]
  by_cases h : (sT T k).1 < 128 <;> simp [h]
theorem asl_len (T : List Nat) (k : Nat) : (asl T k).length ≤ k := by
  have := List.length_filter_le (fun s : Nat × Nat × Nat => decide (s.1 < 128)) ((List.range k).map (sT T))
  simpa [asl] using this
theorem app_slot (w0 w : World) (hE : Ext [] w0 w) (v : Value) (n : Nat) (xs : List Value) (hown : w.ownsRow w0.heap.size 116 3 v n xs) (a : Nat) (x y z : Nat) (hn : n ≤ 1000000) (hrow : w.heap[a]? = some (.cells #[.int .u8 (x : Nat), .int .u64 (y : Nat), .int .u64 (z : Nat)] 116 (0, 0))) :
    ∃ v' w', (Builtin.append_ #[90, 90] 90 #[v, .slice (some ⟨a, 0, none⟩) 1 1]).run Tryd.prog w = .ok v' w' ∧ w'.ownsRow w0.heap.size 116 3 v' (n + 1) (xs ++ [.int .u8 (x : Nat), .int .u64 (y : Nat), .int .u64 (z : Nat)]) ∧ Ext [] w0 w' := by
  obtain ⟨i, hi0, hz0, hz1, hz2⟩ := info_parts info116
  have hlt := own_lt hown
  obtain ⟨v', w', hr, ho, hg, _⟩ := run_append_own (P := Tryd.prog) w w0.heap.size 90 90 116 i _ 3 24 Tryd.underlying90 hi0 hz0 hz1 hz2 rfl (by decide) v n xs hown ⟨a, 0, none⟩ 1 1 [.int .u8 (x : Nat), .int .u64 (y : Nat), .int .u64 (z : Nat)] rfl (fun j u hu => by
    rw [Addr.add_lit, Nat.zero_add, cell_of_row _ _ _ _ _ _ hrow]
    simpa using hu) (by simp [Value.oneCell']) (by unfold maxLen; omega) (by omega) hE.size
  refine ⟨v', w', hr, ho, ?_⟩
  have h2 := Ext.grown (S := v.ownBlock.toList) hg (by intro k hk; simp [hk])
  exact hE.on h2 (fun x hx => (hlt x (by simpa using hx)).1)
def AlPost (w : World) (L : List (Nat × Nat × Nat)) (e : Ending) (w' : World) : Prop := ∃ v, e = .returned v ∧ w'.ownsRow w.heap.size 116 3 v L.length (scl L) ∧ Ext [] w w'
set_option maxRecDepth 100000 in
set_option maxHeartbeats 2000000 in
theorem rall_any (p q c G : Nat) (T : List Nat) (w : World) (h : Rt w p q c G T) (hG : G ≤ 4096) : Calls Tryd.prog 84 #[.pointer (some ⟨p, 0, none⟩)] w (AlPost w (asl T (8 * G))) := by
  have HR := hid h
  have HL := hid (fun k => asl_len T k)
  have HN := hid (fun k => asl_succ T k)
  clear h
  go_enter Tryd.func84, Tryd.ntmps84
  go_wp2_with fail
  go_loopw [3, 4] (fun v u wr => ∃ k : Nat, u = .int .i64 k ∧ k ≤ 8 * G ∧ wr.ownsRow w.heap.size 116 3 v (asl T k).length (scl (asl T k)) ∧ Ext [] w wr) (fun _ u _ => (8 * G - (intOf u)).toNat)
  case atStart => exact ⟨0, rfl, by omega, own_nil _ _ _ _, Ext.refl _ _⟩
  case round =>
    obtain ⟨k, rfl, hk, hO, hX⟩ := hrel
    have hRr := HR.out.keep0 hX
    obtain ⟨_, f1⟩ := hRr.flds
    by_cases hkG : k < 8 * G
    · obtain ⟨s0, s1, s2⟩ := hRr.slot (k := k) hkG
      have hl := HL.out k
      have HNk := hid (HN.out k)
      have HX := hid hX
      clear hRr hX
      generalize sT T k = s at HNk s0 s1 s2
      obtain ⟨x, y, z⟩ := s
      simp only at s0 s1 s2
      by_cases hs : x < 128
      · have hs2 : (x : Int) < 128 := by omega
        have hn := HNk.out
        rw [if_pos hs] at hn
        have hE1 := Ext.alloc [] wr (.cells #[.int .u8 (x : Nat), .int .u64 (y : Nat), .int .u64 (z : Nat)] 116)
        obtain ⟨v', w', hr, hO', hE'⟩ := app_slot w _ (HX.out.trans hE1) _ _ _ (own_keep0 hO hE1) wr.heap.size x y z (by omega) (heap_alloc_new wr _)
        have hO2 : w'.ownsRow w.heap.size 116 3 v' (asl T (k + 1)).length (scl (asl T (k + 1))) := by
          rw [hn, scl_app, List.length_append]
          exact hO'
        obtain ⟨a0, c0, rfl, _⟩ := own_slice hO
        obtain ⟨a1, c1, rfl, _⟩ := own_slice hO'
        have HO := hid hO2
        have HE := hid hE'
        clear hO' hE' hE1 hO hO2 hn hs hl
        go_wp2_with (at_builtin; refine wpList_append_run rfl _ _ 90 rfl _ _ _ rfl rfl hr ?_)
        go_roundw
        case rel => exact ⟨k + 1, by go_num, by omega, HO.out, HE.out⟩
        case measure => simp [intOf]; omega
      · have hs2 : ¬ (x : Int) < 128 := by omega
        have hn := HNk.out
        rw [if_neg hs, List.append_nil] at hn
        have hO2 := hO
        rw [← hn] at hO2
        have HO := hid hO2
        clear hO hO2 hn hs hl
        go_wp2
        go_roundw
        case rel => exact ⟨k + 1, by go_num, by omega, HO.out, HX.out⟩
        case measure => simp [intOf]; omega
    · obtain rfl : k = 8 * G := by omega
      have HO := hid hO
      have HX := hid hX
      clear hO hX hRr
      go_wp2
      go_ret
      exact ⟨_, rfl, HO.out, HX.out⟩
end Go.Proofs.YtkfagfdefkaenaaDoor.Rf

/-
  The program's Grow once more: the words are those that Insert makes of the entries in their order; no statement is proved here.
-/
namespace Go.Proofs.YtkfagfdefkaenaaDoor.Rf
open Go.RowKit Go.Shelf
open Pr (Gp GpI sq pl)
attribute [local go_sem] Oper.semAt_some run_store_func wide_fn wide_depth

/-- A new table into which these were put, the last first. -/
def FilR (M : Nat) : List (Nat × Nat) → List Nat → Prop
  | [], X => X = newT M
  | p :: L, X' => ∃ X, FilR M L X ∧ InsT X M p.1 p.2 (some X')
theorem filR_det {M : Nat} : ∀ {L : List (Nat × Nat)} {X Y : List Nat}, FilR M L X → FilR M L Y → X = Y
  | [], _, _, h1, h2 => by rw [FilR] at h1 h2; rw [h1, h2]
  | _ :: _, _, _, h1, h2 => by
    obtain ⟨X1, a1, b1⟩ := h1
    obtain ⟨Y1, a2, b2⟩ := h2
    rw [filR_det a1 a2] at b1
    exact insT_det b1 b2
/-- The table holds just the entries E, put in in their order. -/
structure Fil (X : List Nat) (M : Nat) (E : List (Nat × Nat)) : Prop extends Hol X M E where
  fil : FilR M E.reverse X
theorem fil_new {G : Nat} (hG : Gp G) : Fil (newT G) G [] := ⟨hol_new hG, rfl⟩
theorem fil_ins {X X' : List Nat} {G h d : Nat} {E : List (Nat × Nat)} (hH : Fil X G E) (hh : h < 18446744073709551616) (hd : d < 18446744073709551616) (hI : InsT X G h d (some X')) : Fil X' G (E ++ [(h, d)]) :=
  ⟨hol_ins hH.toHol hh hd hI, by rw [List.reverse_append]; exact ⟨X, hH.fil, hI⟩⟩
theorem fil_det {X Y : List Nat} {M : Nat} {E : List (Nat × Nat)} (h1 : Fil X M E) (h2 : Fil Y M E) : X = Y := filR_det h1.fil h2.fil
def TGwPost (T : List Nat) (G M : Nat) (w : World) (e : Ending) (w' : World) : Prop := Ext [] w w' ∧
  ((∃ X g c, Fil X M (ents T G) ∧ e = .returned (.tuple #[.slice (some ⟨g, 0, none⟩) (3 + 17 * M) c, .int .i64 0]) ∧ Tw w' g X ∧ w.heap.size ≤ g) ∨
   (7 * M < T.getD 1 0 ∧ e = .returned (.tuple #[.slice none 0 0, .int .i64 7])))
def GwI (M gG : Nat) (W3 : World) (pre : List (Nat × Nat)) (W : World) : Prop := ∃ X, Fil X M pre ∧ Tw W gG X ∧ Ext [gG] W3 W
def GwX (M gG z : Nat) (W3 : World) (cd : Code) (pre : List (Nat × Nat)) (W : World) : Prop := cd = .ret ∧ pre.length = 7 * M + 1 ∧ Boxed W z 22 (.slice none 0 0) ∧ Boxed W (z + 1) 28 (.int .i64 7) ∧ Ext [gG, z, z + 1] W3 W

set_option maxRecDepth 100000 in
set_option maxHeartbeats 4000000 in
theorem tgrow_any (a : Option Addr) (c : Nat) (T : List Nat) (G M : Nat) (hSd : Sd T G) (hM : Gp M) (w : World) (hT : Wd w a T) (hTb : Tb w) :
    Calls Tryd.prog 80 #[.slice a (3 + 17 * G) c, .int .i64 (M : Nat)] w (TGwPost T G M w) := by
  have hlen := hSd.shp.len
  have hG := hSd.shp.gp.le
  have hMl := hM.le
  have hne : T ≠ [] := by rintro rfl; simp at hlen; omega
  obtain ⟨b, o, rfl, hcc⟩ := hT.at_ hne
  clear hcc
  refine (callsIn_wide (n := 14)).1 ?_
  refine callsIn_of_wp_marks Tryd.func80 rfl trivial ?_ rfl
  simp only [Tryd.ntmps80, List.size_toArray, List.length_cons, List.length_nil, Nat.reduceAdd, Nat.reduceSub, Array.replicate_succ, Array.replicate_zero, List.push_toArray, List.append_toArray, List.nil_append, List.cons_append]
  obtain ⟨z, hz⟩ : ∃ z, w.heap.size = z := ⟨_, rfl⟩
  have hbz : b < z := by
    obtain ⟨b', o', e, hc⟩ := hT.at_ hne
    cases e
    have := block_lt_of_cell (hc 0 (by rw [hlen]; omega))
    rw [hz] at this; exact this
  have h0z : 0 < z := by rw [← hz]; exact hTb.lt
  obtain ⟨W0, hW0⟩ : ∃ W0, (w.alloc (.cells #[.slice none 0 0] 22)).alloc (.cells #[.int .i64 0] 28) = W0 := ⟨_, rfl⟩
  have hE0 : Ext [] w W0 := by rw [← hW0]; exact (Ext.alloc [] _ _).trans (Ext.alloc [] _ _)
  have b0 : Boxed W0 z 22 (.slice none 0 0) := by rw [← hW0, ← hz]; exact (Boxed.new w 22 _).alloc _
  have b1 : Boxed W0 (z + 1) 28 (.int .i64 0) := by
    have := Boxed.new (w.alloc (.cells #[.slice none 0 0] 22)) 28 (.int .i64 0)
    rw [hW0, World.size_alloc, hz] at this; exact this
  have K0 := sound_true (some ⟨b, o, none⟩) c T G hSd _ (hT.keep0 hE0)
  have HE0 := hid hE0
  have Hb0 := hid b0
  have Hb1 := hid b1
  have HT0 := hid (hT.keep0 hE0)
  have HTb0 := hid (hTb.keep0 hE0)
  have HSd := hid hSd
  have HL := hid hlen
  have HZ := hid hz
  have HM := hid hM
  clear hE0 b0 b1 hT hTb hSd hlen hM
  gi_wp2_with fail
  try rw [hW0]
  try simp only [hz]
  clear hW0
  gi_at_call 68
  refine (callsIn_wide.2 K0).mono ?_
  clear K0 hz
  rintro _ w1 ⟨rfl, hX1⟩
  have K1 := tnew_ok M HM.out w1
  have HX1 := hid hX1
  clear hX1
  gi_wp2_with fail
  gi_at_call 35
  refine (callsIn_wide.2 K1).mono ?_
  clear K1
  rintro _ w2 ⟨gG, cG, rfl, hTG, hgG, hX2⟩
  have hX12 := HX1.out.trans hX2
  have Hb0' := hid (show Boxed w2 z 22 _ from hX12.keep Hb0.out (by simp))
  have Hb1' := hid (show Boxed w2 (z + 1) 28 _ from hX12.keep Hb1.out (by simp))
  have HT2 := hid (HT0.out.keep0 hX12)
  have HTb2 := hid (HTb0.out.keep0 hX12)
  have HE2 := hid (HE0.out.trans hX12)
  have HTG := hid hTG
  have hz1g : z + 1 < gG := by
    have h1 : Boxed w1 (z + 1) 28 (.int .i64 0) := HX1.out.keep Hb1.out (by simp)
    have := h1.lt
    omega
  have hg2 : gG < w2.heap.size := hTG.lt
  clear hX2 hX12 HX1 Hb0 Hb1 HT0 HTb0 HE0 hTG
  have K1 := entries_any (some ⟨b, o, none⟩) (3 + 17 * G) c (w2.alloc (.cells #[.slice (some ⟨gG, 0, none⟩) (3 + 17 * M) cG] 22))
  obtain ⟨z2, hz2⟩ : ∃ z2, w2.heap.size = z2 := ⟨_, rfl⟩
  simp only [World.size_alloc, hz2] at K1
  have HZ2 := hid hz2
  have hgz : gG < z2 := by rw [← hz2]; exact hg2
  have ccG := (Boxed.new w2 22 (.slice (some ⟨gG, 0, none⟩) (3 + 17 * M) cG)).cell
  gi_wp2_with (first | (gi_at_call 110; refine (callsIn_wide.2 K1).mono ?_; rintro _ _ ⟨rfl, rfl⟩))
  clear K1
  have hz2' := HZ2.out
  have bg := (Boxed.new w2 22 (.slice (some ⟨gG, 0, none⟩) (3 + 17 * M) cG)).alloc (.cells #[.slice (some ⟨b, o, none⟩) (3 + 17 * G) c] 22)
  have bt := Boxed.new (w2.alloc (.cells #[.slice (some ⟨gG, 0, none⟩) (3 + 17 * M) cG] 22)) 22 (.slice (some ⟨b, o, none⟩) (3 + 17 * G) c)
  have hX3 : Ext [] w2 ((w2.alloc (.cells #[.slice (some ⟨gG, 0, none⟩) (3 + 17 * M) cG] 22)).alloc (.cells #[.slice (some ⟨b, o, none⟩) (3 + 17 * G) c] 22)) := (Ext.alloc [] _ _).trans (Ext.alloc [] _ _)
  obtain ⟨W3, hW3⟩ : ∃ W3, (w2.alloc (.cells #[.slice (some ⟨gG, 0, none⟩) (3 + 17 * M) cG] 22)).alloc (.cells #[.slice (some ⟨b, o, none⟩) (3 + 17 * G) c] 22) = W3 := ⟨_, rfl⟩
  have hs3 : W3.heap.size = z2 + 2 := by rw [← hW3]; simp [hz2']
  simp only [World.size_alloc, hz2'] at bg bt
  rw [hW3] at bg bt hX3
  have hb1 : b < z2 := by omega
  obtain ⟨R, hR1⟩ : ∃ R, w2.heap[b]? = some R := ⟨_, Array.getElem?_eq_getElem (by rw [hz2']; exact hb1)⟩
  have hRc : R.isCells = true := by
    obtain ⟨b', o', e, hc⟩ := HT2.out.at_ hne
    cases e
    have := hc 0 (by rw [HL.out]; omega)
    cases R with
    | cells cs t m => rfl
    | _ => simp [World.cell?, hR1] at this
  have hO3 : ∀ k ∈ [0, z2 + 1, b], ¬ Olist [gG, z, z + 1] W3 k := by
    intro k hk hO
    simp only [Olist, List.mem_cons, List.not_mem_nil, or_false] at hk hO
    omega
  have hEnt := entries_gives 13 (by omega) (z2 + 1) b o c G T R HSd.out.shp (Olist [gG, z, z + 1]) W3 bt (hX3.keep hR1 (by simp)) hRc (HT2.out.keep0 hX3) (HTb2.out.keep0 hX3) hO3
  have HEnt := hid hEnt
  have HX3 := hid hX3
  have Hbg := hid bg
  have HTG3 := hid (HTG.out.keep0 hX3)
  have HTb3 := hid (HTb2.out.keep0 hX3)
  have hel := ents_len T G
  clear bg bt hEnt hR1 hRc hO3 hX3 ccG
  try rw [hW3]
  have hz13 : z2 + 2 ≤ W3.heap.size ∧ W3.heap.size ≤ z2 + 2 := by omega
  clear hW3 hs3 hz2' hz2
  refine loop_givesS rfl (by omega) (gf := 126) (lb := #[.pointer (some ⟨z2 + 1, 0, none⟩)]) rfl trivial (enters_of Tryd.func126 (by kernel_rfl) rfl)
    HEnt.out (fun _ => rfl)
    (GwI M gG W3) (GwX M gG z W3)
    (cal_list (fun s X Y row hs hg hr => by
      obtain ⟨Q, q1, q2, q3⟩ := hs
      exact ⟨Q, q1, tw_own (β := Unit) gG _ () X Y row q2 hg (fun r e => (hr r e).2), ext_own (β := Unit) (Nat.le_refl _) () X Y row q3 hg hr⟩) (fun s W hs k hk => by obtain ⟨Q, q1, q2, q3⟩ := hs; have := q3.size; simp at hk; omega))
    (fun cd => cal_list (fun s X Y row hs hg hr => by
      obtain ⟨e1, e2, q1, q2, q3⟩ := hs
      exact ⟨e1, e2, boxed_own z 22 (fun _ : Unit => .slice none 0 0) () X Y row q1 hg (fun r e => (hr r e).2), boxed_own (z + 1) 28 (fun _ : Unit => .int .i64 7) () X Y row q2 hg (fun r e => (hr r e).2), ext_own (β := Unit) (Nat.le_refl _) () X Y row q3 hg hr⟩)
      (fun s W hs k hk => by obtain ⟨e1, e2, q1, q2, q3⟩ := hs; have := q3.size; simp at hk; omega))
    ⟨newT M, fil_new HM.out, HTG3.out, Ext.refl _ _⟩
    (fun x a' _ => a' = { tmps := #[.slice (some ⟨b, o, none⟩) (3 + 17 * G) c, .int .i64 (M : Nat), undef, undef, .pointer (some ⟨z, 0, none⟩), .pointer (some ⟨z + 1, 0, none⟩), .pointer (some ⟨z2, 0, none⟩), .int .i64 0, .int .u64 (x.1 : Nat), .int .u64 (x.2 : Nat), .slice (some ⟨b, o, none⟩) (3 + 17 * G) c, .bool true, .bool false, .tuple #[.slice (some ⟨gG, 0, none⟩) (3 + 17 * M) cG, .int .i64 0], .int .i64 (M : Nat), .tuple #[.slice (some ⟨gG, 0, none⟩) (3 + 17 * M) cG, .int .i64 0], .slice (some ⟨gG, 0, none⟩) (3 + 17 * M) cG, .int .i64 0, .int .i64 0, .bool false, undef, .slice (some ⟨b, o, none⟩) (3 + 17 * G) c, .func (.func 126) #[] #[.pointer (some ⟨z2 + 1, 0, none⟩)], .int .u64 (x.1 : Nat), .int .u64 (x.2 : Nat), undef, undef, undef, undef, undef, undef], defers := [] }) (fun x a' _ X Y row hs hg hr => hs)
    ?assign ?body ?done ?stop
  case assign =>
    rintro l pre x W K _ hI hK
    unfold eenc
    gi_wp2
    exact hK _ _ (KeepsFrom.refl _ _) (Kc.refl _ _) hI rfl
  case stop =>
    rintro D cd pre W hD hSp ⟨rfl, hpl, q1, q2, q3⟩ hK
    have HF : Hid (7 * M < T.getD 1 0) := by
      have h1 := hSp.length_le
      rw [ents_tot, ← HSd.out.cnt] at h1
      show _ < _
      omega
    have Hq1 := hid q1
    have Hq2 := hid q2
    have Hq3 := hid q3
    have HK := hid hK
    have HD := hid hD
    clear hSp hpl q1 q2 q3 hK hD
    gi_wp2_with fail
    have hP := grownBy_putObj' W D (.deferred none)
    have hx2 := Ext.grown (S := [D]) hP (by simp)
    have hDz := HD.out
    have hr1 : Boxed _ _ _ _ := hx2.keep (show W.heap[z]? = _ from Hq1.out) (by simp; omega)
    have hr2 : Boxed _ _ _ _ := hx2.keep (show W.heap[z + 1]? = _ from Hq2.out) (by simp; omega)
    have hw := HZ.out
    refine ⟨by simp, .inl ⟨_, _, rfl, run_takeDeferred HK.out, _, results_cells2 rfl _ _ ⟨z, 0, none⟩ ⟨z + 1, 0, none⟩ _ _ rfl rfl (load22 hr1) (load29 hr2), ?_, .inr ⟨HF.out, rfl⟩⟩⟩
    exact (((HE2.out.trans HX3.out).on Hq3.out (by simp; omega)).on hx2 (by simp; omega))
  case done =>
    rintro D zs W hD rfl ⟨X, hH, hTw, hX⟩ hK
    have hbg : Boxed W z2 22 (.slice (some ⟨gG, 0, none⟩) (3 + 17 * M) cG) := hX.keep Hbg.out (by simp; omega)
    have cg := hbg.cell
    have hb0 : Boxed W z 22 (.slice none 0 0) := hX.keep (HX3.out.keep Hb0'.out (by simp)) (by simp; omega)
    have hb1 : Boxed W (z + 1) 28 (.int .i64 0) := hX.keep (HX3.out.keep Hb1'.out (by simp)) (by simp; omega)
    have c0 := hb0.cell
    have f0 := hb0.frozen
    have hx1 := Ext.setCell [z] W ⟨z, 0, none⟩ (.slice (some ⟨gG, 0, none⟩) (3 + 17 * M) cG) (by simp)
    have hb1' : Boxed (W.setCell ⟨z, 0, none⟩ (.slice (some ⟨gG, 0, none⟩) (3 + 17 * M) cG)) (z + 1) 28 (.int .i64 0) := hx1.keep hb1 (by simp)
    have c1 := hb1'.cell
    have f1 := hb1'.frozen
    have HX := hid hX
    have HH := hid hH
    have HTw := hid hTw
    have HK := hid hK
    have HD := hid hD
    have Hb0 := hid hb0
    have Hb1 := hid hb1'
    have Hx1 := hid hx1
    clear hX hH hTw hK hD hbg hb0 hb1 hb1' hx1
    gi_wp2_with fail
    have hx3 := Ext.setCell [z + 1] (W.setCell ⟨z, 0, none⟩ (.slice (some ⟨gG, 0, none⟩) (3 + 17 * M) cG)) ⟨z + 1, 0, none⟩ (.int .i64 0) (by simp)
    have hK2 := ((KeepsOthers.setCell W ⟨z, 0, none⟩ (.slice (some ⟨gG, 0, none⟩) (3 + 17 * M) cG)).trans (KeepsOthers.setCell _ ⟨z + 1, 0, none⟩ (.int .i64 0))).same _ _ HK.out rfl
    have hP := grownBy_putObj' ((W.setCell ⟨z, 0, none⟩ (.slice (some ⟨gG, 0, none⟩) (3 + 17 * M) cG)).setCell ⟨z + 1, 0, none⟩ (.int .i64 0)) D (.deferred none)
    have hx2 := Ext.grown (S := [D]) hP (by simp)
    have hDz := HD.out
    have hr1 : Boxed _ _ _ _ := hx2.keep (hx3.keep (Hb0.out.set (.slice (some ⟨gG, 0, none⟩) (3 + 17 * M) cG)) (by simp)) (by simp; omega)
    have hr2 : Boxed _ _ _ _ := hx2.keep (Hb1.out.set (.int .i64 0)) (by simp; omega)
    have hw := HZ.out
    refine ⟨by simp, .inl ⟨_, _, rfl, run_takeDeferred hK2, _, results_cells2 rfl _ _ ⟨z, 0, none⟩ ⟨z + 1, 0, none⟩ _ _ rfl rfl (load22 hr1) (load29 hr2), ?_, .inl ⟨X, gG, cG, HH.out, rfl, ?_, by omega⟩⟩⟩
    · exact ((((HE2.out.trans HX3.out).on HX.out (by simp; omega)).on Hx1.out (by simp; omega)).on hx3 (by simp; omega)).on hx2 (by simp; omega)
    · exact ((HTw.out.keep Hx1.out (by simp; omega)).keep hx3 (by simp; omega)).keep hx2 (by simp; omega)
  case body =>
    rintro l pre x a' W hl ⟨r, hr⟩ ⟨X, hH, hTw, hX⟩ rfl hlt ⟨hxh, hxd⟩
    obtain ⟨xh, xd⟩ := x
    simp only at hxh hxd
    have hbg : Boxed W z2 22 (.slice (some ⟨gG, 0, none⟩) (3 + 17 * M) cG) := hX.keep Hbg.out (by simp; omega)
    have cg := hbg.cell
    have KI := insert_any gG cG M xh xd X hH.sd.shp hxh hxd (by rw [hH.len]; omega) W hTw ((Kt.of_ext hX (by simp; omega)).tb HTb3.out)
    have HH := hid hH
    have HX := hid hX
    clear hH hX hTw hbg hr
    gi_wp2_with fail
    gi_at_call 78
    refine ((callsIn_wide.2 KI).inRound l).mono ?_
    clear KI
    rintro e V ⟨hXV, hres⟩
    rcases hres with ⟨g1, i1, hf, hno, rfl, hTV⟩ | ⟨rfl, _, hno⟩
    · have HF : Hid (KeepsFrom W3.heap.size W V ∧ Kc (Olist [gG, z, z + 1]) W V ∧ GwI M gG W3 (pre ++ [(xh, xd)]) V) := by
        refine ⟨keeps_ext hXV (by simp; omega), kc_list (hXV.mono (by simp)), _, fil_ins HH.out hxh hxd ⟨g1, i1, hf, hno, rfl⟩, hTV, HX.out.trans hXV⟩
      clear hf hno hTV hXV cg
      gi_wp2_with fail
      exact HF.out
    · have hfull := hol_full HH.out.toHol (h := xh) (d := xd) hno
      have hb0 : Boxed V z 22 (.slice none 0 0) := (HX.out.trans hXV).keep (HX3.out.keep Hb0'.out (by simp)) (by simp; omega)
      have hb1 : Boxed V (z + 1) 28 (.int .i64 0) := (HX.out.trans hXV).keep (HX3.out.keep Hb1'.out (by simp)) (by simp; omega)
      have c0 := hb0.cell
      have f0 := hb0.frozen
      have hx1 := Ext.setCell [z] V ⟨z, 0, none⟩ (.slice none 0 0) (by simp)
      have hb1' : Boxed (V.setCell ⟨z, 0, none⟩ (.slice none 0 0)) (z + 1) 28 (.int .i64 0) := hx1.keep hb1 (by simp)
      have c1 := hb1'.cell
      have f1 := hb1'.frozen
      have hx3 := Ext.setCell [z + 1] (V.setCell ⟨z, 0, none⟩ (.slice none 0 0)) ⟨z + 1, 0, none⟩ (.int .i64 7) (by simp)
      have hall : Ext [gG, z, z + 1] W ((V.setCell ⟨z, 0, none⟩ (.slice none 0 0)).setCell ⟨z + 1, 0, none⟩ (.int .i64 7)) := ((hXV.mono (by simp)).trans (hx1.mono (by simp))).trans (hx3.mono (by simp))
      have HF : Hid (KeepsFrom W3.heap.size W ((V.setCell ⟨z, 0, none⟩ (.slice none 0 0)).setCell ⟨z + 1, 0, none⟩ (.int .i64 7)) ∧ Kc (Olist [gG, z, z + 1]) W ((V.setCell ⟨z, 0, none⟩ (.slice none 0 0)).setCell ⟨z + 1, 0, none⟩ (.int .i64 7)) ∧ GwX M gG z W3 .ret (pre ++ [(xh, xd)]) ((V.setCell ⟨z, 0, none⟩ (.slice none 0 0)).setCell ⟨z + 1, 0, none⟩ (.int .i64 7))) := by
        refine ⟨keeps_ext hall (by simp; omega), kc_list hall, rfl, by rw [List.length_append, hfull]; rfl, hx3.keep (hb0.set _) (by simp), hb1'.set _, (HX.out.mono (by simp)).trans hall⟩
      clear hno hXV cg hb0 hb1 hx1 hb1' hx3 hall hfull
      gi_wp2_with fail
      exact HF.out
set_option maxRecDepth 100000 in
set_option maxHeartbeats 4000000 in
theorem tgrow_bad (a : Option Addr) (c : Nat) (T : List Nat) (G : Nat) (M : Int) (hSd : Sd T G) (hM : ¬ GpI M) (w : World) (hT : Wd w a T) :
    Calls Tryd.prog 80 #[.slice a (3 + 17 * G) c, .int .i64 M] w (SayPost w (.tuple #[.slice none 0 0, .int .i64 2])) := by
  refine (callsIn_wide (n := 14)).1 ?_
  refine callsIn_of_wp_marks Tryd.func80 rfl trivial ?_ rfl
  simp only [Tryd.ntmps80, List.size_toArray, List.length_cons, List.length_nil, Nat.reduceAdd, Nat.reduceSub, Array.replicate_succ, Array.replicate_zero, List.push_toArray, List.append_toArray, List.nil_append, List.cons_append]
  have hG := hSd.shp.gp.le
  obtain ⟨z, hz⟩ : ∃ z, w.heap.size = z := ⟨_, rfl⟩
  obtain ⟨W0, hW0⟩ : ∃ W0, (w.alloc (.cells #[.slice none 0 0] 22)).alloc (.cells #[.int .i64 0] 28) = W0 := ⟨_, rfl⟩
  have hE0 : Ext [] w W0 := by rw [← hW0]; exact (Ext.alloc [] _ _).trans (Ext.alloc [] _ _)
  have b0 : Boxed W0 z 22 (.slice none 0 0) := by rw [← hW0, ← hz]; exact (Boxed.new w 22 _).alloc _
  have b1 : Boxed W0 (z + 1) 28 (.int .i64 0) := by
    have := Boxed.new (w.alloc (.cells #[.slice none 0 0] 22)) 28 (.int .i64 0)
    rw [hW0, World.size_alloc, hz] at this; exact this
  have K0 := sound_true a c T G hSd _ (hT.keep0 hE0)
  have HE0 := hid hE0
  have Hb0 := hid b0
  have Hb1 := hid b1
  have HZ := hid hz
  have HM := hid hM
  clear hE0 b0 b1 hT hSd hM
  gi_wp2_with fail
  try rw [hW0]
  try simp only [hz]
  clear hW0
  gi_at_call 68
  refine (callsIn_wide.2 K0).mono ?_
  clear K0 hz
  rintro _ w1 ⟨rfl, hX1⟩
  have K1 := tnew_bad M HM.out w1
  have HX1 := hid hX1
  clear hX1
  gi_wp2_with fail
  gi_at_call 35
  refine (callsIn_wide.2 K1).mono ?_
  clear K1
  rintro _ w2 ⟨rfl, rfl⟩
  have hE3 := Ext.alloc [] w2 (.cells #[.slice none 0 0] 22)
  have hb0 : Boxed (w2.alloc (.cells #[.slice none 0 0] 22)) z 22 (.slice none 0 0) := (HX1.out.trans hE3).keep Hb0.out (by simp)
  have hb1 : Boxed (w2.alloc (.cells #[.slice none 0 0] 22)) (z + 1) 28 (.int .i64 0) := (HX1.out.trans hE3).keep Hb1.out (by simp)
  have HE3 := hid ((HE0.out.trans HX1.out).trans hE3)
  clear hE3
  have c0 := hb0.cell
  have f0 := hb0.frozen
  have hx1 := Ext.setCell [z] (w2.alloc (.cells #[.slice none 0 0] 22)) ⟨z, 0, none⟩ (.slice none 0 0) (by simp)
  have hb1' : Boxed ((w2.alloc (.cells #[.slice none 0 0] 22)).setCell ⟨z, 0, none⟩ (.slice none 0 0)) (z + 1) 28 (.int .i64 0) := hx1.keep hb1 (by simp)
  have c1 := hb1'.cell
  have f1 := hb1'.frozen
  have Hx1 := hid hx1
  have Hb0' := hid hb0
  have Hb1' := hid hb1'
  clear hb0 hb1 hx1 hb1'
  gi_wp2_with fail
  have hx3 := Ext.setCell [z + 1] ((w2.alloc (.cells #[.slice none 0 0] 22)).setCell ⟨z, 0, none⟩ (.slice none 0 0)) ⟨z + 1, 0, none⟩ (.int .i64 2) (by simp)
  have hr1 : Boxed _ _ _ _ := hx3.keep (Hb0'.out.set (.slice none 0 0)) (by simp)
  have hr2 : Boxed _ _ _ _ := Hb1'.out.set (.int .i64 2)
  have hw := HZ.out
  refine ⟨_, results_cells2 rfl _ _ ⟨z, 0, none⟩ ⟨z + 1, 0, none⟩ _ _ rfl rfl (load22 hr1) (load29 hr2), rfl, ?_⟩
  exact (HE3.out.on Hx1.out (by simp; omega)).on hx3 (by simp; omega)
end Go.Proofs.YtkfagfdefkaenaaDoor.Rf
