/-
  RhC: joined by program; no statement is proved here.
-/
import Derived.Test.YtkfagfdefkaenaaDoorZPL
import Derived.Test.YtkfagfdefkaenaaDoorZPH
/-
  The document splits a table; no statement is proved here.
-/
namespace Go.Proofs.YtkfagfdefkaenaaDoor.Rf
open Go.RowKit Go.Shelf
open Pr (Gp GpI)
attribute [local go_sem] Oper.semAt_some run_store_func

set_option maxRecDepth 100000 in
set_option maxHeartbeats 8000000 in
theorem rsplit_any (pd qd cd dp a : Nat) (A B : List Tq) (t : Tq) (R : List Rc) (r : Rc) (hD : Dq dp (A ++ t :: B)) (ht6 : t.d < 6) (ha : A.length = a) (hr : R[a]? = some r) (W0 w : World) (hX : Ext [] W0 w) (hlo : Low W0.heap.size pd qd R) (hR : Rd w pd qd cd dp (A ++ t :: B) R) (hsd : Sd t.T t.G) :
    Calls Tryd.prog 46 #[.pointer (some ⟨pd, 0, none⟩), .int .i64 (a : Nat)] w (RspPost pd dp A t B R W0 w) := by
  have hG := hsd.shp.gp.le
  have hG0 := hsd.shp.gp.pos
  have hdp := hD.le
  have hn64 := hD.len
  obtain ⟨n, hn⟩ : ∃ n, (A ++ t :: B).length = n := ⟨_, rfl⟩
  rw [hn] at hn64
  have han : a < n := by rw [← hn, List.length_append, List.length_cons]; omega
  obtain ⟨b1, hRt⟩ := hR.tab a r t hr (by rw [← ha]; simp)
  obtain ⟨cs, hcs, hcs2⟩ := hR.row
  have hbk := hR.blk
  rw [hn] at hbk
  have f0 : w.cell? ⟨pd, 0, none⟩ = some (.int .i64 (dp : Nat)) := by rw [cell_of_row _ _ _ _ _ _ hbk]; rfl
  have f1 : w.cell? ⟨pd, 1, none⟩ = some (.slice (some ⟨qd, 0, none⟩) n cd) := by rw [cell_of_row _ _ _ _ _ _ hbk]; rfl
  have f2 : w.cell? ⟨qd, a, none⟩ = some (.pointer (some ⟨r.pt, 0, none⟩)) := by rw [cell_of_row _ _ _ _ _ _ hcs]; exact hcs2 _ r hr
  have f3 : w.cell? ⟨r.pt, 0, none⟩ = some (.int .i64 (t.d : Nat)) := by rw [cell_of_row _ _ _ _ _ _ b1]; rfl
  have f4 : w.cell? ⟨r.pt, 1, none⟩ = some (.int .u64 (lea dp (A ++ t :: B) a t : Nat)) := by rw [cell_of_row _ _ _ _ _ _ b1]; rfl
  have f5 : w.cell? ⟨r.pt, 2, none⟩ = some (.pointer (some ⟨r.p, 0, none⟩)) := by rw [cell_of_row _ _ _ _ _ _ b1]; rfl
  obtain ⟨f6, _⟩ := hRt.flds
  have hai : (a : Int) < n := by omega
  have hk4 : (0 : Int) ≤ (a : Int) := by omega
  obtain ⟨le, hle⟩ : ∃ le, lea dp (A ++ t :: B) a t = le := ⟨_, rfl⟩
  rw [hle] at f4
  have KN := fun u => rnew_ok t.G hsd.shp.gp u
  have KA := fun u (hu : Ext [] w u) => rall_any r.p r.q r.c t.G t.T u (hRt.keep0 hu) hG
  have HR := hid hR
  have HX := hid hX
  have HD := hid hD
  have HSd := hid hsd
  have HLe := hid hle
  have HN := hid hn
  have HA := hid ha
  have Hr := hid hr
  clear hR hX hD hsd hle hn ha hr hcs hcs2 hbk b1 hRt
  go_enter Tryd.func46, Tryd.ntmps46
  go_wp2_with fail
  refine (KN _).mono ?_
  rintro _ w1 ⟨p0, q0, rfl, hR0, hp0, hq0, hE1⟩
  have g5 := hE1.cell f5 (by simp)
  have g6 := hE1.cell f6 (by simp)
  have HR0 := hid hR0
  have HE1 := hid hE1
  clear hR0 hE1
  go_wp2_with fail
  refine (KN _).mono ?_
  rintro _ w2 ⟨p1, q1, rfl, hR1, hp1, hq1, hE2⟩
  have e5 := hE2.cell g5 (by simp)
  have HR1 := hid hR1
  have HR0' := hid (HR0.out.keep0 hE2)
  have HE2 := hid (HE1.out.trans hE2)
  have hs1 : w1.heap.size ≤ w2.heap.size := hE2.size
  have hs0 : w.heap.size ≤ w1.heap.size := HE1.out.size
  have hp01 : p0 < w1.heap.size := lt_of_heap HR0.out.blk
  have hq01 : q0 < w1.heap.size := by obtain ⟨cs, hc, _⟩ := HR0.out.row; exact lt_of_heap hc
  have KA2 := KA w2 HE2.out
  clear hR1 hE2 KN KA HR0 HE1 g5 g6
  go_wp2_with fail
  refine KA2.mono ?_
  clear KA2 e5
  rintro _ w3 ⟨vl, rfl, hO, hE3⟩
  obtain ⟨al, cl, rfl, _⟩ := own_slice hO
  have hlen : (asl t.T (8 * t.G)).length = (ents t.T t.G).length := by rw [← asl_ents t.T t.G, List.length_map]
  have hE7 := sd_len7 HSd.out
  have hol := own_lt hO
  have hp11 : p1 < w2.heap.size := lt_of_heap HR1.out.blk
  have hq11 : q1 < w2.heap.size := by obtain ⟨cs, hc, _⟩ := HR1.out.row; exact lt_of_heap hc
  have HR03 := hid (HR0'.out.keep0 hE3)
  have HR13 := hid (HR1.out.keep0 hE3)
  have HE3 := hid (HE2.out.trans hE3)
  have HO := hid hO
  have HSl := hid (fun (i : Nat) (s : Nat × Nat × Nat) (hs : (asl t.T (8 * t.G))[i]? = some s) => show (ents t.T t.G)[i]? = some s.2 by rw [← asl_ents t.T t.G, List.getElem?_map, hs]; rfl)
  have HLt := hid (fun (y z : Nat) (hm : (y, z) ∈ ents t.T t.G) => ents_lt HSd.out.shp t.G _ hm)
  have Hlen := hid hlen
  have HE7 := hid hE7
  have Hol := hid hol
  have HF3 := hid (fun u (hu : Ext [] w u) => hu.cell f3 (by simp))
  have hLb : (asl t.T (8 * t.G)).length ≤ 28672 := by omega
  clear hO hE3 hlen hE7 hol HR0' HR1 HE2
  generalize asl t.T (8 * t.G) = L at *
  generalize hEe : ents t.T t.G = E at *
  obtain ⟨dd, hdd⟩ : ∃ dd, t.d = dd := ⟨_, rfl⟩
  obtain ⟨G, hGG⟩ : ∃ G, t.G = G := ⟨_, rfl⟩
  have hgp := HSd.out.shp.gp
  rw [hdd] at HF3 ht6
  rw [hGG] at HR03 HR13 HE7 hgp hG
  go_wp2_with fail
  go_loopw [10] (fun u wr => ∃ i X0 X1, u = .int .i64 ((i : Nat) : Int) ∧ i ≤ L.length ∧ Fil X0 G (hf dd 0 (E.take i)) ∧ Fil X1 G (hf dd 1 (E.take i)) ∧ Rt wr p0 q0 (8 * G) G X0 ∧ Rt wr p1 q1 (8 * G) G X1 ∧ wr.ownsRow w2.heap.size 116 3 (.slice al L.length cl) L.length (scl L) ∧ Ext [] w wr) (fun u _ => (L.length - (intOf u)).toNat)
  case atStart => exact ⟨0, newT G, newT G, rfl, by omega, fil_new hgp, fil_new hgp, HR03.out, HR13.out, HO.out, HE3.out⟩
  case round =>
    obtain ⟨i, X0, X1, rfl, hi, hF0, hF1, hx0, hx1, hOx, hXx⟩ := hrel
    by_cases hiL : i < L.length
    · obtain ⟨⟨x, y, z⟩, hs⟩ : ∃ s, L[i]? = some s := ⟨L[i], List.getElem?_eq_getElem hiL⟩
      have hes := HSl.out i _ hs
      have hlt := HLt.out y z (List.mem_of_getElem? hes)
      have hiE : i < E.length := (List.getElem?_eq_some_iff.1 hes).1
      have hd := Ext.drew [] wr
      obtain ⟨b, rfl, c1, c2⟩ := scl_at hOx hs
      have c3 := HF3.out wr hXx
      have KLd : ∀ (m v : Int), m = (dd : Int) + 1 → v = (y : Int) → ∀ u, Calls Tryd.prog 75 #[.int .u64 v, .int .i64 m] u fun e w' => e = .returned (.int .u64 (ld y (dd + 1) : Nat)) ∧ w' = u := fun m v hm hv u => by
        have := lead_any y (dd + 1) hlt.1 (by omega) u
        rw [show ((dd + 1 : Nat) : Int) = m from by omega, ← hv] at this
        exact this
      have HT0 := hid (hf_take (d := dd) (b := 0) hes)
      have HT1 := hid (hf_take (d := dd) (b := 1) hes)
      have s1 : (wr.drew).cell? ⟨b, i * 3 + 1, none⟩ = some (.int .u64 (y : Nat)) := c1
      have s2 : (wr.drew).cell? ⟨b, i * 3 + 2, none⟩ = some (.int .u64 (z : Nat)) := c2
      have s3 : (wr.drew).cell? ⟨r.pt, 0, none⟩ = some (.int .i64 (dd : Nat)) := c3
      have hil : (i : Int) < L.length := by omega
      have hi0 : (0 : Int) ≤ (i : Int) := by omega
      have hbw2 : w2.heap.size ≤ b := (own_lt hOx b (by simp [Value.ownBlock])).1
      have hbq : b ∉ [q0] := by simp; omega
      have hbq1 : b ∉ [q1] := by simp; omega
      have HX0 := hid hx0
      have HX1 := hid hx1
      have HF0 := hid hF0
      have HF1 := hid hF1
      have HOx := hid hOx
      have HXx := hid hXx
      obtain ⟨k, hk⟩ : ∃ k, ld y (dd + 1) = k := ⟨_, rfl⟩
      simp only [hk] at KLd HT0 HT1
      clear hx0 hx1 hF0 hF1 hOx hXx hs hes hk c1 c2 c3
      by_cases hbit : k % 2 = 0
      · have hq0 : ((k : Int).tmod 2 == 0) = true := by rw [Int.tmod_eq_emod_of_nonneg (by omega)]; simp; omega
        have KI := fun u (hu : Ext [] wr u) => (rins_any p0 q0 (8 * G) G y z X0 u (HX0.out.keep0 hu) hgp hlt.1).mono (R' := fun e w' => e = .returned (.bool true) ∧ (∃ X', InsT X0 G y z (some X') ∧ Rt w' p0 q0 (8 * G) G X') ∧ Ext [q0] u w') (fun e w' k => by
          rcases ins_agree HF0.out.sd hlt.1 hlt.2 k.1 with ⟨X', a1, a2, a3⟩ | ⟨a1, _, _⟩
          · exact ⟨a2, ⟨X', a1, a3⟩, k.2⟩
          · have h1 := hol_full HF0.out.toHol a1
            have h2 := hf_le (d := dd) (b := 0) (i := i) (E := E)
            have := HE7.out
            omega)
        go_wp2_with fail
        apply region_cut
        case hr =>
          go_region_law (go_simp; go_wp2_with (first | (go_at_call 75; refine met (KLd _ _ (by first | rfl | omega | (rw [IntKind.wrap_i64] <;> omega)) (by first | rfl | omega) _) ?_)))
          all_goals exact NoPanic.normal ⟨rfl, rfl, rfl⟩
        go_wp2_with fail
        have z1 : (wr.drew.drew).cell? ⟨b, i * 3 + 1, none⟩ = some (.int .u64 (y : Nat)) := s1
        have z2 : (wr.drew.drew).cell? ⟨b, i * 3 + 2, none⟩ = some (.int .u64 (z : Nat)) := s2
        have hU := hd.trans (Ext.drew [] wr.drew)
        go_region_held3 (fun u => u.cell? ⟨b, i * 3 + 1, none⟩ = some (.int .u64 (y : Nat)) ∧ u.cell? ⟨b, i * 3 + 2, none⟩ = some (.int .u64 (z : Nat)))
          (first | exact ⟨hX5.cell z1 hbq, hX5.cell z2 hbq⟩ | exact ⟨z1, z2⟩ | go_keep)
          (first | (go_at_call 44; refine (KI _ hU).mono ?_; rintro _ w5 ⟨rfl, hI5, hX5⟩) | fail "no arm")
        obtain ⟨X', hI, hR5⟩ := hI5
        have HA : Hid (Fil X' G (hf dd 0 (E.take (i + 1))) ∧ Fil X1 G (hf dd 1 (E.take (i + 1))) ∧ Rt w5 p0 q0 (8 * G) G X' ∧ Rt w5 p1 q1 (8 * G) G X1 ∧ w5.ownsRow w2.heap.size 116 3 (.slice (some ⟨b, 0, none⟩) L.length cl) L.length (scl L) ∧ Ext [] w w5) :=
          ⟨by rw [HT0.out, if_pos (by omega)]; exact fil_ins HF0.out hlt.1 hlt.2 hI, by rw [HT1.out, if_neg (by omega), List.append_nil]; exact HF1.out, hR5, (HX1.out.keep0 hU).keep hX5 (by simp; omega) (by simp; omega), own_keep (own_keep0 HOx.out hU) hX5 (fun v hv hb => by simp only [List.mem_singleton] at hv; simp [Value.ownBlock] at hb; omega), (HXx.out.trans hU).on hX5 (by simp; omega)⟩
        clear hI hR5 hX5 z1 z2 s1 s2 s3 hU KI KLd hd
        go_wp2_with fail
        go_roundw
        case rel => exact ⟨i + 1, X', X1, by go_num, by omega, HA.out.1, HA.out.2.1, HA.out.2.2.1, HA.out.2.2.2.1, HA.out.2.2.2.2.1, HA.out.2.2.2.2.2⟩
        case measure => simp [intOf]; omega
      · have hbq := hbq1
        have hq0 : ((k : Int).tmod 2 == 0) = false := by rw [Int.tmod_eq_emod_of_nonneg (by omega)]; simp; omega
        have KI := fun u (hu : Ext [] wr u) => (rins_any p1 q1 (8 * G) G y z X1 u (HX1.out.keep0 hu) hgp hlt.1).mono (R' := fun e w' => e = .returned (.bool true) ∧ (∃ X', InsT X1 G y z (some X') ∧ Rt w' p1 q1 (8 * G) G X') ∧ Ext [q1] u w') (fun e w' k => by
          rcases ins_agree HF1.out.sd hlt.1 hlt.2 k.1 with ⟨X', a1, a2, a3⟩ | ⟨a1, _, _⟩
          · exact ⟨a2, ⟨X', a1, a3⟩, k.2⟩
          · have h1 := hol_full HF1.out.toHol a1
            have h2 := hf_le (d := dd) (b := 1) (i := i) (E := E)
            have := HE7.out
            omega)
        go_wp2_with fail
        apply region_cut
        case hr =>
          go_region_law (go_simp; go_wp2_with (first | (go_at_call 75; refine met (KLd _ _ (by first | rfl | omega | (rw [IntKind.wrap_i64] <;> omega)) (by first | rfl | omega) _) ?_)))
          all_goals exact NoPanic.normal ⟨rfl, rfl, rfl⟩
        go_wp2_with fail
        have z1 : (wr.drew.drew).cell? ⟨b, i * 3 + 1, none⟩ = some (.int .u64 (y : Nat)) := s1
        have z2 : (wr.drew.drew).cell? ⟨b, i * 3 + 2, none⟩ = some (.int .u64 (z : Nat)) := s2
        have hU := hd.trans (Ext.drew [] wr.drew)
        go_region_held3 (fun u => u.cell? ⟨b, i * 3 + 1, none⟩ = some (.int .u64 (y : Nat)) ∧ u.cell? ⟨b, i * 3 + 2, none⟩ = some (.int .u64 (z : Nat)))
          (first | exact ⟨hX5.cell z1 hbq, hX5.cell z2 hbq⟩ | exact ⟨z1, z2⟩ | go_keep)
          (first | (go_at_call 44; refine (KI _ hU).mono ?_; rintro _ w5 ⟨rfl, hI5, hX5⟩) | fail "no arm")
        obtain ⟨X', hI, hR5⟩ := hI5
        have HA : Hid (Fil X0 G (hf dd 0 (E.take (i + 1))) ∧ Fil X' G (hf dd 1 (E.take (i + 1))) ∧ Rt w5 p0 q0 (8 * G) G X0 ∧ Rt w5 p1 q1 (8 * G) G X' ∧ w5.ownsRow w2.heap.size 116 3 (.slice (some ⟨b, 0, none⟩) L.length cl) L.length (scl L) ∧ Ext [] w w5) :=
          ⟨by rw [HT0.out, if_neg (by omega), List.append_nil]; exact HF0.out, by rw [HT1.out, if_pos (by omega)]; exact fil_ins HF1.out hlt.1 hlt.2 hI, (HX0.out.keep0 hU).keep hX5 (by simp; omega) (by simp; omega), hR5, own_keep (own_keep0 HOx.out hU) hX5 (fun v hv hb => by simp only [List.mem_singleton] at hv; simp [Value.ownBlock] at hb; omega), (HXx.out.trans hU).on hX5 (by simp; omega)⟩
        clear hI hR5 hX5 z1 z2 s1 s2 s3 hU KI KLd hd
        go_wp2_with fail
        go_roundw
        case rel => exact ⟨i + 1, X0, X', by go_num, by omega, HA.out.1, HA.out.2.1, HA.out.2.2.1, HA.out.2.2.2.1, HA.out.2.2.2.2.1, HA.out.2.2.2.2.2⟩
        case measure => simp [intOf]; omega
    · obtain rfl : i = L.length := by omega
      have g0 := hXx.cell f0 (by simp)
      have g1 := hXx.cell f1 (by simp)
      have g2 := hXx.cell f2 (by simp)
      have g3 := HF3.out wr hXx
      have g4 := hXx.cell f4 (by simp)
      have hmx : (if (dp : Int) < IntKind.i64.wrap ((dd : Int) + 1) then IntKind.i64.wrap ((dd : Int) + 1) else (dp : Int)) = ((max dp (dd + 1) : Nat) : Int) := by
        rw [show IntKind.i64.wrap ((dd : Int) + 1) = (dd : Int) + 1 by rw [IntKind.wrap_i64]; omega]
        split <;> omega
      have hbk := (HR.out.keep0 hXx).blk
      rw [HN.out] at hbk
      have hfr : wr.drew.frozen? ⟨pd, 0, none⟩ = false := frozen_of_row _ _ _ _ _ hbk
      have g0' : wr.drew.cell? ⟨pd, 0, none⟩ = some (.int .i64 (dp : Nat)) := g0
      have g3' : wr.drew.cell? ⟨r.pt, 0, none⟩ = some (.int .i64 (dd : Nat)) := g3
      have HXx := hid hXx
      have HF0 := hid hF0
      have HF1 := hid hF1
      have Hx0 := hid hx0
      have Hx1 := hid hx1
      have HBk := hid hbk
      clear hXx hF0 hF1 hx0 hx1 hbk hOx HO HLt HSl HE3 Hol
      go_wp2_with fail
      apply region_cut (W := (wr.setCell ⟨pd, 0, none⟩ (.int .i64 (max dp (dd + 1) : Nat))).drew)
      case hr =>
        go_region_law (go_simp)
        all_goals exact NoPanic.normal ⟨rfl, rfl, by first | rfl | rw [hmx]⟩
      obtain ⟨mx, hmxe⟩ : ∃ mx, max dp (dd + 1) = mx := ⟨_, rfl⟩
      rw [hmxe]
      have hs' := Ext.setCell [pd] wr ⟨pd, 0, none⟩ (.int .i64 (mx : Nat)) (by simp)
      have hpd := hlo.1
      obtain ⟨u1, hu1⟩ : ∃ u1, wr.setCell ⟨pd, 0, none⟩ (.int .i64 (mx : Nat)) = u1 := ⟨_, rfl⟩
      have hrow1 := heap_setCell_same wr pd 0 _ 83 (.int .i64 (mx : Nat)) HBk.out
      rw [hu1] at hs' hrow1 ⊢
      have hRd := HR.out.keep0 HXx.out
      obtain ⟨hqp, hne⟩ := rd_ne hRd
      have hpt := (hne r t a Hr.out (by rw [← HA.out]; simp)).1
      have k1 : u1.drew.cell? ⟨pd, 1, none⟩ = some (.slice (some ⟨qd, 0, none⟩) n cd) := by
        show u1.cell? _ = _
        rw [cell_of_row _ _ _ _ _ _ hrow1]; rfl
      have hVs : Vs u1 (some ⟨qd, 0, none⟩) ((ptl R).take a) := (rd_vs hRd 0 a).keep hs' (by simpa using hqp)
      have k3 := hs'.cell g3 (by simpa using hpt)
      have k4 := hs'.cell g4 (by simpa using hpt)
      have hRl : R.length = n := by rw [hRd.len, HN.out]
      have hac : a ≤ cd := by have := hRd.cap; rw [HN.out] at this; omega
      obtain ⟨v1, u2, hr1, ho1, hx1, hk1⟩ := app_own u1.drew u1.drew (Ext.refl _ _) 81 81 78 (.pointer none) 8 Tryd.underlying81 info78 rfl (by decide) (.slice none 0 0) 0 [] (own_nil _ _ _ _) (some ⟨qd, 0, none⟩) a cd ((ptl R).take a) (by simp [ptl]; omega) hVs (fun u hu => by
        obtain ⟨s, _, rfl⟩ := List.mem_map.1 (List.mem_of_mem_take hu)
        rfl) (by omega)
      go_wp2_with (at_builtin; refine wpList_append_run rfl _ _ 81 rfl _ _ _ rfl rfl hr1 ?_)
      have l3 : u2.drew.cell? ⟨r.pt, 0, none⟩ = some (.int .i64 (dd : Nat)) := (hx1.cell (show u1.drew.cell? _ = _ from k3) (by simp))
      have l4 : u2.drew.cell? ⟨r.pt, 1, none⟩ = some (.int .u64 (le : Nat)) := (hx1.cell (show u1.drew.cell? _ = _ from k4) (by simp))
      have l3' : u2.cell? ⟨r.pt, 0, none⟩ = some (.int .i64 (dd : Nat)) := l3
      have l4' : u2.cell? ⟨r.pt, 1, none⟩ = some (.int .u64 (le : Nat)) := l4
      have hle64 : le ≤ 64 := by rw [← HLe.out]; exact lea_le HD.out _ _
      have hw1 : IntKind.i64.wrap ((dd : Int) + 1) = (dd : Int) + 1 := by rw [IntKind.wrap_i64]; omega
      have hw2 : IntKind.u64.wrap (2 * (le : Int)) = 2 * (le : Int) := by rw [IntKind.wrap_u64]; omega
      have hw3 : IntKind.u64.wrap (2 * (le : Int) + 1) = 2 * (le : Int) + 1 := by rw [IntKind.wrap_u64]; omega
      have n3 := fun (u : World) (h : u.cell? ⟨r.pt, 0, none⟩ = some (.int .i64 (dd : Nat))) => World.new_ne u _ h
      have n4 := fun (u : World) (h : u.cell? ⟨r.pt, 1, none⟩ = some (.int .u64 (le : Nat))) => World.new_ne u _ h
      rw [Nat.zero_add, List.nil_append] at ho1
      have hRa : ((ptl R).take a).length = a := ho1.1.trans (by omega)
      obtain ⟨s, hss⟩ : ∃ s, u2.heap.size = s := ⟨_, rfl⟩
      have app := fun (Y0 Y1 : Obj) (i j : Nat) =>
        have hE := ((Ext.alloc [] u2 Y0).trans (Ext.alloc [] _ Y1)).trans ((Ext.alloc [] _ (.cells #[.pointer (some ⟨i, 0, none⟩), .pointer (some ⟨j, 0, none⟩)] 78)).trans (Ext.drew [] _))
        app_own u1.drew ((((u2.alloc Y0).alloc Y1).alloc (.cells #[.pointer (some ⟨i, 0, none⟩), .pointer (some ⟨j, 0, none⟩)] 78)).drew) (hx1.trans hE) 81 81 78 (.pointer none) 8 Tryd.underlying81 info78 rfl (by decide) v1 a _ (own_keep0 ho1 hE) (some ⟨s + 2, 0, none⟩) 2 2 [.pointer (some ⟨i, 0, none⟩), .pointer (some ⟨j, 0, none⟩)] rfl
          (by have h := vs_new ((u2.alloc Y0).alloc Y1) 78 [.pointer (some ⟨i, 0, none⟩), .pointer (some ⟨j, 0, none⟩)]
              rw [show ((u2.alloc Y0).alloc Y1).heap.size = s + 2 by rw [← hss]; show ((u2.heap.push Y0).push Y1).size = _; simp] at h
              exact h.keep0 (Ext.drew [] _)) (by simp [Value.oneCell']) (by omega)
      obtain ⟨va, ua, hra, hoa, hxa, hka⟩ := app (.cells #[.int .i64 ((dd : Int) + 1), .int .u64 (2 * (le : Int)), .pointer (some ⟨p0, 0, none⟩)] 80) (.cells #[.int .i64 ((dd : Int) + 1), .int .u64 (2 * (le : Int) + 1), .pointer (some ⟨p1, 0, none⟩)] 80) s (s + 1)
      obtain ⟨vb, ub, hrb, hob, hxb, hkb⟩ := app (.cells #[.int .i64 ((dd : Int) + 1), .int .u64 (2 * (le : Int) + 1), .pointer (some ⟨p1, 0, none⟩)] 80) (.cells #[.int .i64 ((dd : Int) + 1), .int .u64 (2 * (le : Int)), .pointer (some ⟨p0, 0, none⟩)] 80) (s + 1) s
      have la3 : ua.cell? ⟨r.pt, 0, none⟩ = some (.int .i64 (dd : Nat)) := hxa.cell (show u1.drew.cell? _ = _ from k3) (by simp)
      have la4 : ua.cell? ⟨r.pt, 1, none⟩ = some (.int .u64 (le : Nat)) := hxa.cell (show u1.drew.cell? _ = _ from k4) (by simp)
      have lb3 : ub.cell? ⟨r.pt, 0, none⟩ = some (.int .i64 (dd : Nat)) := hxb.cell (show u1.drew.cell? _ = _ from k3) (by simp)
      have lb4 : ub.cell? ⟨r.pt, 1, none⟩ = some (.int .u64 (le : Nat)) := hxb.cell (show u1.drew.cell? _ = _ from k4) (by simp)
      have hrowA : ua.heap[pd]? = some (.cells #[.int .i64 (mx : Nat), .slice (some ⟨qd, 0, none⟩) n cd] 83 (0, 0)) := hxa.keep (show u1.drew.heap[pd]? = _ from hrow1) (by simp)
      have hrowB : ub.heap[pd]? = some (.cells #[.int .i64 (mx : Nat), .slice (some ⟨qd, 0, none⟩) n cd] 83 (0, 0)) := hxb.keep (show u1.drew.heap[pd]? = _ from hrow1) (by simp)
      have ma : ua.cell? ⟨pd, 1, none⟩ = some (.slice (some ⟨qd, 0, none⟩) n cd) := by rw [cell_of_row _ _ _ _ _ _ hrowA]; rfl
      have mb : ub.cell? ⟨pd, 1, none⟩ = some (.slice (some ⟨qd, 0, none⟩) n cd) := by rw [cell_of_row _ _ _ _ _ _ hrowB]; rfl
      have hnewA : ∀ (Y0 Y1 Y2 : Obj), (((u2.alloc Y0).alloc Y1).alloc Y2).drew.heap[s]? = some Y0 ∧ (((u2.alloc Y0).alloc Y1).alloc Y2).drew.heap[s + 1]? = some Y1 := fun Y0 Y1 Y2 => by
        have e0 := heap_alloc_new u2 Y0
        have e1 := heap_alloc_new (u2.alloc Y0) Y1
        rw [World.size_alloc, hss] at e1
        rw [hss] at e0
        have x2 := (Ext.alloc [] ((u2.alloc Y0).alloc Y1) Y2).trans (Ext.drew [] _)
        exact ⟨((Ext.alloc [] _ Y1).trans x2).keep e0 (by simp), x2.keep e1 (by simp)⟩
      have hno : ∀ k, s ≤ k → k ∉ v1.ownBlock.toList := fun k hk h => by
        have := (own_lt ho1 k (by simpa using h)).2
        omega
      have hsw : w.heap.size ≤ s := by
        rw [← hss]
        exact Nat.le_trans (Nat.le_trans HXx.out.size hs'.size) hx1.size
      have hwr2 := HXx.out
      have hpq : w.heap.size ≤ p0 ∧ w.heap.size ≤ q0 ∧ w.heap.size ≤ p1 ∧ w.heap.size ≤ q1 := by omega
      have hdn : p0 ≠ p1 ∧ q0 ≠ q1 := by omega
      have EN := fun (i j : Nat) (ux : World) (vx : Value) => @rsplit_end pd qd cd dp a mx le n p0 q0 p1 q1 i j A B t R r X0 X1 W0 w wr u1 ux vx HD.out HA.out Hr.out (by rw [hdd]; exact hmxe) HLe.out HN.out HX.out hlo HR.out hwr2 hs' hrow1 (by have := HF0.out; rw [Hlen.out, List.take_length] at this; rw [hEe, hGG, hdd]; exact this) (by have := HF1.out; rw [Hlen.out, List.take_length] at this; rw [hEe, hGG, hdd]; exact this) (by rw [hGG]; exact Hx0.out) (by rw [hGG]; exact Hx1.out) hpq hdn
      have ENA := EN s (s + 1) ua va hoa hxa (by rw [hdd]; exact hka.keep (hnewA _ _ _).1 (hno _ (by omega))) (by rw [hdd]; exact hka.keep (hnewA _ _ _).2 (hno _ (by omega))) (by omega) hsw (by omega)
      have ENB := EN (s + 1) s ub vb hob hxb (by rw [hdd]; exact hkb.keep (hnewA _ _ _).2 (hno _ (by omega))) (by rw [hdd]; exact hkb.keep (hnewA _ _ _).1 (hno _ (by omega))) (by omega) (by omega) hsw
      have ENA := hid ENA
      have ENB := hid ENB
      have HMA := hid ma
      have HMB := hid mb
      have hncd : n ≤ cd := by have := hRd.cap; rw [HN.out] at this; omega
      clear ma mb EN hnewA hno hrowA hrowB
      clear app
      go_region_held3 (fun u => u.cell? ⟨r.pt, 0, none⟩ = some (.int .i64 (dd : Nat)) ∧ u.cell? ⟨r.pt, 1, none⟩ = some (.int .u64 (le : Nat)))
          (first | exact ⟨l3, l4⟩ | (constructor <;> (repeat (first | assumption | (refine (Ext.drew [] _).cell ?_ (by simp)) | (refine (Ext.alloc [] _ _).cell ?_ (by simp))))) | go_keep)
          (first | (refine step_append_run rfl _ _ 81 rfl _ _ _ (by rfl) (by rfl) hra ?_) | (refine step_append_run rfl _ _ 81 rfl _ _ _ (by rfl) (by rfl) hrb ?_) | fail "no arm")
      · clear l3 l4 l3' l4' n3 n4 hw1 hw2 hw3 hr1 k1 k3 k4
        have ma := HMA.out
        clear HMA HMB
        by_cases hcd : cd = a + 1
        · obtain rfl : n = a + 1 := by omega
          subst hcd
          obtain ⟨g, cap, uz, hrz, hz, HF⟩ := ENA.out (some ⟨qd, 0, none⟩) 0 0 (by omega) (.inl rfl)
          have cz : uz.cell? ⟨pd, 1, none⟩ = some (.slice (some ⟨qd, 0, none⟩) (a + 1) (a + 1)) := by rw [cell_of_row _ _ _ _ _ _ hz]; rfl
          have fz : uz.frozen? ⟨pd, 1, none⟩ = false := frozen_of_row _ _ _ _ _ hz
          have HZ := hid hz
          have HRz := hid hrz
          clear ENA ENB hz hrz
          go_wp2_with (at_builtin; refine wpList_append_run rfl _ _ 81 rfl _ _ _ rfl rfl HRz.out ?_)
          exact bodyPost_ret (results_none rfl _ _ _) rfl (HF.out _)
        · obtain ⟨g, cap, uz, hrz, hz, HF⟩ := ENA.out (some ⟨qd, a + 1, none⟩) (n - (a + 1)) (cd - (a + 1)) rfl (.inr rfl)
          have cz : uz.cell? ⟨pd, 1, none⟩ = some (.slice (some ⟨qd, 0, none⟩) n cd) := by rw [cell_of_row _ _ _ _ _ _ hz]; rfl
          have fz : uz.frozen? ⟨pd, 1, none⟩ = false := frozen_of_row _ _ _ _ _ hz
          have HZ := hid hz
          have HRz := hid hrz
          have hcd2 : ¬ cd - (a + 1) = 0 := by omega
          have hcd3 : ¬ (a + 1 = cd) := by omega
          clear ENA ENB hz hrz
          go_wp2_with (at_builtin; refine wpList_append_run rfl _ _ 81 rfl _ _ _ rfl rfl HRz.out ?_)
          exact bodyPost_ret (results_none rfl _ _ _) rfl (HF.out _)
      · clear l3 l4 l3' l4' n3 n4 hw1 hw2 hw3 hr1 k1 k3 k4
        have ma := HMB.out
        clear HMA HMB
        by_cases hcd : cd = a + 1
        · obtain rfl : n = a + 1 := by omega
          subst hcd
          obtain ⟨g, cap, uz, hrz, hz, HF⟩ := ENB.out (some ⟨qd, 0, none⟩) 0 0 (by omega) (.inl rfl)
          have cz : uz.cell? ⟨pd, 1, none⟩ = some (.slice (some ⟨qd, 0, none⟩) (a + 1) (a + 1)) := by rw [cell_of_row _ _ _ _ _ _ hz]; rfl
          have fz : uz.frozen? ⟨pd, 1, none⟩ = false := frozen_of_row _ _ _ _ _ hz
          have HZ := hid hz
          have HRz := hid hrz
          clear ENA ENB hz hrz
          go_wp2_with (at_builtin; refine wpList_append_run rfl _ _ 81 rfl _ _ _ rfl rfl HRz.out ?_)
          exact bodyPost_ret (results_none rfl _ _ _) rfl (HF.out _)
        · obtain ⟨g, cap, uz, hrz, hz, HF⟩ := ENB.out (some ⟨qd, a + 1, none⟩) (n - (a + 1)) (cd - (a + 1)) rfl (.inr rfl)
          have cz : uz.cell? ⟨pd, 1, none⟩ = some (.slice (some ⟨qd, 0, none⟩) n cd) := by rw [cell_of_row _ _ _ _ _ _ hz]; rfl
          have fz : uz.frozen? ⟨pd, 1, none⟩ = false := frozen_of_row _ _ _ _ _ hz
          have HZ := hid hz
          have HRz := hid hrz
          have hcd2 : ¬ cd - (a + 1) = 0 := by omega
          have hcd3 : ¬ (a + 1 = cd) := by omega
          clear ENA ENB hz hrz
          go_wp2_with (at_builtin; refine wpList_append_run rfl _ _ 81 rfl _ _ _ rfl rfl HRz.out ?_)
          exact bodyPost_ret (results_none rfl _ _ _) rfl (HF.out _)
end Go.Proofs.YtkfagfdefkaenaaDoor.Rf
