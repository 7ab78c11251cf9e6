/-
  The walk through HeapZero; no statement is proved here.
-/
import Derived.Test.YtlajjcboahflbaaDoorAq
namespace Go.Proofs.YtlajjcboahflbaaDoor
open Go.RowKit

theorem map_snoc {α β : Type} (f : α → β) {L : List α} {i : Nat} (h : i < L.length) : (L.take (i + 1)).map f = (L.take i).map f ++ [f L[i]] := by
  rw [List.take_add_one, List.getElem?_eq_getElem h]; simp only [Option.toList_some, List.map_append, List.map_cons, List.map_nil]

set_option maxRecDepth 100000 in
set_option maxHeartbeats 16000000 in
theorem zeroWalk (pages : Int) (sa : Option Addr) (c : Nat) (S : List Oq) (size tag : Int) (ba : Option Addr) (bc : Nat) (ys : List Int) (w : World) (hG : Gl w) (hS : Sc w sa S) (hy : Sl w ba ys) (hyl : ys.length ≤ 140737488351232) :
    Calls Tryd.prog 4 #[.int .i64 pages, .slice sa S.length c, .int .i64 size, .int .i64 tag, .slice ba ys.length bc] w (SayPost w (.bool true)) := by
  have K1 : Calls Tryd.prog 9 #[.int .i64 pages, .slice sa S.length c] w (fun e w' => ∃ p cs v, e = .returned (.tuple #[.pointer (some ⟨p, 0, none⟩), v]) ∧ Hid (∃ F, GwI w w' p cs (growH (newH (pgsOf pages)) [] S).1 v (growH (newH (pgsOf pages)) [] S).2 F)) := by
    refine (grown_any pages sa c S w hG hS).mono ?_
    rintro e w1 ⟨p, cs, F, v, rfl, hI⟩
    exact ⟨p, cs, v, rfl, F, hI⟩
  have hlen : (growH (newH (pgsOf pages)) [] S).2.length ≤ 1954687338211 := by
    have h1 := growH_len S (newH (pgsOf pages)) []
    have h2 := hS.len
    simp at h1; omega
  have HG := hid hG
  have HY := hid hy
  clear hS hG hy
  generalize (growH (newH (pgsOf pages)) [] S).1 = H at *
  generalize (growH (newH (pgsOf pages)) [] S).2 = L at *
  generalize S.length = n at *
  go_enter Tryd.func4, Tryd.ntmps4
  go_upto_region 4 with (first | (go_at_call 9; refine K1.mono ?_; clear K1; rintro e w1 ⟨p, cs, v, rfl, hX⟩; have K2 := awake_any w1 (HG.out.keep0 (by obtain ⟨F, h⟩ := hX.out; exact h.ext))) | (go_at_call 10; refine K2.mono ?_; clear K2; rintro e w2 ⟨rfl, hE2⟩; replace hE2 := hid hE2) | fail "no arm")
  obtain ⟨F, hI0⟩ := hX.out
  have hI := hI0.ext0 hE2.out
  have HA : Hid (Aq w w2 p cs H (fun b => v.ownBlock = some b)) := Aq.of_gw hI
  have hok := hI.hw.ok
  have HV := hid hI.gv
  have HGok := hid hI.gok
  obtain ⟨va, vc, hv, hvc⟩ := hI.gv.slice
  subst hv
  clear hX hI0 hE2 hI
  -- the first loop's calls
  have KI : Hid (∀ u b, Ext [] w2 u → Calls Tryd.prog 12 #[.pointer (some ⟨p, 0, none⟩), .int .i64 b] u (fun e w' => ∃ A T E : Int, e = .returned (.tuple #[.agg #[.int .i64 A, .int .i64 (szO H b), .int .i64 T, .slice none 0 0], .int .i64 E]) ∧ Ext [] u w')) := fun u b hu => (HA.out.ext0 hu).infoZ b
  have KR : Hid (∀ u b, Ext [] w2 u → Calls Tryd.prog 13 #[.pointer (some ⟨p, 0, none⟩), .int .i64 b, .int .i64 (szO H b)] u (fun e w' => ∃ ra, ∃ E : Int, e = .returned (.tuple #[.slice ra (rdO H b).length (rdO H b).length, .int .i64 E]) ∧ Hid (Bs u w' ra (rdO H b)) ∧ Ext [] u w')) := fun u b hu => (HA.out.ext0 hu).readZ b
  have HN0 : Hid (Bf w2 (w2.alloc (.cells #[] 40)) (.slice (some ⟨w2.heap.size, 0, none⟩) 0 0) []) := bf_nil w2 (Ext.refl _ _)
  have HE0 : Hid (Ext [] w2 (w2.alloc (.cells #[] 40))) := Ext.alloc _ _ _
  generalize hLn : L.length = ln at *
  have HLn := hid hLn
  clear hLn
  go_wp2_with fail
  go_loopw [13, 14] (fun vb q wr => ∃ (i : Nat) (vba : Option Addr) (vbn vbc : Nat), vb = .slice vba vbn vbc ∧ q = .int .i64 i ∧ i ≤ ln ∧ Hid (Bf w2 wr (.slice vba vbn vbc) ((L.take i).map (rdO H)) ∧ Ext [] w2 wr)) (fun _ q _ => (ln - (intOf q)).toNat)
  case atStart => exact ⟨0, _, _, _, rfl, rfl, Nat.zero_le _, hid ⟨by simpa using HN0.out, HE0.out⟩⟩
  case round =>
    obtain ⟨i, vba, vbn, vbc, rfl, rfl, hi, hBf⟩ := hrel
    by_cases hlt : i < ln
    · have hgt := (HV.out.keep0 hBf.out.2).at_ (by rw [HLn.out]; omega)
      obtain ⟨g, gc, hgv, _, hcell⟩ := hgt
      simp only [Value.slice.injEq] at hgv
      obtain ⟨rfl, hgv1, rfl⟩ := hgv
      clear hgv1
      have hc0 := hcell i (by rw [HLn.out]; exact hlt)
      obtain ⟨b, hb⟩ : ∃ b, b = L.getD i 0 := ⟨_, rfl⟩
      rw [← hb] at hc0
      have HB : Hid (L[i]? = some b) := by
        show L[i]? = some b
        rw [hb]; simp [List.getD, show i < L.length by rw [HLn.out]; exact hlt]
      have KI1 := KI.out wr b hBf.out.2
      clear hcell hb
      have hiN : (i : Int) < (ln : Nat) := by omega
      go_upto_region 9 with (first | (go_at_call 12; refine KI1.mono ?_; clear KI1; rintro e w3 ⟨A, T, E, rfl, hE3⟩) | fail "no arm")
      have hE3a : Ext [] wr (w3.alloc (.cells #[.int .i64 A, .int .i64 (szO H b), .int .i64 T, .slice none 0 0] 34)) := hE3.trans (Ext.alloc _ _ _)
      have d1 : (w3.alloc (.cells #[.int .i64 A, .int .i64 (szO H b), .int .i64 T, .slice none 0 0] 34)).cell? ⟨w3.heap.size, 1, none⟩ = some (.int .i64 (szO H b)) := by rw [cell_of_row _ _ _ _ _ _ (heap_alloc_new w3 _)]; rfl
      have hc1 := hE3a.cell hc0 (by simp)
      have HE3 := hid hE3a
      clear hc0 hE3 hE3a
      generalize w3.alloc (.cells #[.int .i64 A, .int .i64 (szO H b), .int .i64 T, .slice none 0 0] 34) = w4 at *
      generalize w3.heap.size = z3 at *
      have KR4 : Hid (∀ u, Ext [] w4 u → Calls Tryd.prog 13 #[.pointer (some ⟨p, 0, none⟩), .int .i64 b, .int .i64 (szO H b)] u (fun e w' => ∃ ra, ∃ E : Int, e = .returned (.tuple #[.slice ra (rdO H b).length (rdO H b).length, .int .i64 E]) ∧ Hid (Bs u w' ra (rdO H b)) ∧ Ext [] u w')) := fun u hu => KR.out u b ((hBf.out.2.trans HE3.out).trans hu)
      have HX : Hid (∀ w5 w6, Ext [] w4 w5 → Ext [] w5 w6 → ∀ ra, Bs w5 w6 ra (rdO H b) → ∃ v' w', (Builtin.append_ #[41, 41] 41 #[.slice vba vbn vbc, .slice (some ⟨w6.heap.size, 0, none⟩) 1 1]).run Tryd.prog (w6.alloc (.cells #[.slice ra (rdO H b).length (rdO H b).length] 40)) = .ok v' w' ∧ Bf w2 w' v' ((L.take (i + 1)).map (rdO H)) ∧ Ext [] w2 w') := by
        intro w5 w6 h5 h6 ra hra
        have hx := (hBf.out.2.trans HE3.out).trans h5
        have hLi : i < L.length := by rw [HLn.out]; exact hlt
        have hLb : L[i] = b := by have := HB.out; rw [List.getElem?_eq_getElem hLi] at this; simpa using this
        rw [map_snoc _ hLi, hLb]
        exact (hBf.out.1.keep0 ((HE3.out.trans h5).trans h6)).push (hra.old hx.size) (hx.trans h6) (by simp; omega)
      clear KR
      generalize hrl : (rdO H b).length = rl at *
      clear hrl
      generalize szO H b = sz at *
      go_region_held3 (fun w' => w'.cell? ⟨g, i, none⟩ = some (.int .i64 b) ∧ w'.cell? ⟨z3, 1, none⟩ = some (.int .i64 sz)) (first | exact ⟨h6.cell ((Ext.drew [] _).cell hc1 (by simp)) (by simp), h6.cell ((Ext.drew [] _).cell d1 (by simp)) (by simp)⟩ | go_keep)
        (first | (go_at_call 13; refine (KR4.out _ (Ext.drew [] _)).mono ?_; rintro e w6 ⟨ra, E6, rfl, hra, h6⟩) | fail "no arm")
      obtain ⟨v7, w7, hr7, h7⟩ := HX.out _ w6 (Ext.drew [] _) h6 ra hra.out
      obtain ⟨va7, vc7, hv7, _⟩ := h7.1.slice
      subst hv7
      generalize ((L.take (i + 1)).map (rdO H)).length = vn7 at *
      have H7 := hid h7
      clear h7 HX KR4 h6 hra hc1 d1 HE3 hBf
      go_wp2_with (at_builtin; refine wpList_append_run rfl _ _ 41 rfl _ _ _ rfl rfl hr7 ?_)
      go_roundw
      case rel => exact ⟨i + 1, _, _, _, rfl, by go_num, by omega, H7⟩
      case measure => simp [intOf]; omega
    · have hin : i = ln := by omega
      have hall : (L.take i).map (rdO H) = L.map (rdO H) := by rw [hin, ← HLn.out, List.take_length]
      rw [hall] at hBf
      have HQ0 := HA.out.more hBf.out.2
      obtain ⟨K, hK⟩ : ∃ K : Nat → Prop, K = fun b => (Value.slice va ln vc).ownBlock = some b ∨ (w2.heap.size ≤ b ∧ b < wr.heap.size) := ⟨_, rfl⟩
      rw [← hK] at HQ0
      have HQ := hid HQ0
      have HBfin : Hid (∀ u, KeptP K wr u → Bf w2 u (.slice vba vbn vbc) (L.map (rdO H)) ∧ Gv u (.slice va ln vc) L) := fun u hu => ⟨hBf.out.1.kept hu (fun b h1 h2 => by rw [hK]; exact .inr ⟨h1, h2⟩), hu.own (HV.out.keep0 hBf.out.2) (fun g hg => by rw [hK]; exact .inl hg)⟩
      obtain ⟨va3, vc3, hvb, _⟩ := hBf.out.1.slice
      rw [List.length_map, HLn.out] at hvb
      simp only [Value.slice.injEq] at hvb
      obtain ⟨rfl, hvb2, rfl⟩ := hvb
      replace hvb2 := hvb2.symm
      subst hvb2
      have K14 := HQ.out.fits HG.out size
      clear hK HQ0 KI KR HN0 HE0 hBf hall HA HV HGok hin hi
      generalize wr = wA at *
      by_cases her : (allocH H size tag).2.1 = 0
      rotate_left
      · obtain ⟨ha, _⟩ := alloc_zero H size tag her
        have hnf := alloc_nofit her
        have hb : ((allocH H size tag).2.1 == 0) = false := by simpa using her
        have K15 : Hid (∀ u, Ext [] wA u → Calls Tryd.prog 15 #[.pointer (some ⟨p, 0, none⟩), .int .i64 size, .int .i64 tag] u (fun e w' => e = .returned (.tuple #[.int .i64 0, .int .i64 (allocH H size tag).2.1]) ∧ Ext [] w w')) := fun u hu => ((HQ.out.ext0 hu).alloc HG.out size tag).mono (by
          rintro e w' ⟨rfl, h, _⟩
          rw [ha]
          exact ⟨rfl, h.ext⟩)
        clear her ha hok HQ HBfin HY
        generalize (allocH H size tag).2.1 = er at *
        generalize fitsH H size = ft at *
        go_upto_region 14 with (first | (go_at_call 14; refine K14.mono ?_; clear K14; rintro e w4 ⟨rfl, hE4⟩; have K15a := K15.out w4 hE4; clear hE4) | (go_at_call 15; refine K15a.mono ?_; clear K15a; rintro e w5 ⟨rfl, hE5⟩; replace hE5 := hid hE5) | fail "no arm")
        cases ft
        · clear hnf
          go_wp2_with fail
          go_ret
          exact ⟨rfl, hE5.out⟩
        · by_cases h1 : tag < 0
          · clear hnf
            go_wp2_with fail
            go_ret
            exact ⟨rfl, hE5.out⟩
          · have h2 : 2147483647 < tag := by
              rcases hnf with q | q | q
              · cases q
              · exact absurd q h1
              · exact q
            clear hnf
            go_wp2_with fail
            go_ret
            exact ⟨rfl, hE5.out⟩
      have hC := came hok her
      have hag := alloc_gok hok size tag
      rw [hC.fits] at K14
      have K15 : Hid (∀ u, Ext [] wA u → Calls Tryd.prog 15 #[.pointer (some ⟨p, 0, none⟩), .int .i64 size, .int .i64 tag] u (fun e w' => e = .returned (.tuple #[.int .i64 (allocH H size tag).1, .int .i64 0]) ∧ Aq w w' p cs (allocH H size tag).2.2 K ∧ KeptP K wA w')) := fun u hu => ((HQ.out.ext0 hu).alloc HG.out size tag).mono (by
        rintro e w' ⟨rfl, h, h2⟩
        rw [her]
        exact ⟨rfl, h, (KeptP.ext0 hu HQ.out.hi).trans h2⟩)
      have hs1 : 1 ≤ size := hC.ok.1
      have hs2 := hC.ok.2
      generalize (allocH H size tag).2.2 = H1 at *
      generalize (allocH H size tag).1 = a at *
      clear her HQ
      have HC := hid hC
      clear hC
      obtain ⟨N, rfl⟩ : ∃ N : Nat, size = N := ⟨size.toNat, by omega⟩
      have KR1 : Hid (∀ u, Aq w u p cs H1 K → Calls Tryd.prog 13 #[.pointer (some ⟨p, 0, none⟩), .int .i64 a, .int .i64 N] u (fun e w' => ∃ g, e = .returned (.tuple #[.slice (some ⟨g, 0, none⟩) N N, .int .i64 0]) ∧ Row w' g (List.replicate N 0) ∧ Ext [] u w')) := fun u hu => by
        obtain ⟨z1, z2⟩ := HC.out.zero hu.ok
        refine (hu.read a N).mono ?_
        rintro e w' ⟨ra, rfl, hr, hE⟩
        rw [z1, z2, List.length_replicate, Int.toNat_natCast]
        rw [z2, Int.toNat_natCast] at hr
        rcases hr with ⟨_, q⟩ | ⟨g, rfl, _, q⟩
        · have := congrArg List.length q
          rw [List.length_replicate] at this
          simp at this; omega
        · exact ⟨g, rfl, q, hE⟩
      go_upto_region 16 with (first | (go_at_call 14; refine K14.mono ?_; clear K14; rintro e w4 ⟨rfl, hE4⟩; have K15a := K15.out w4 hE4; clear hE4) | (go_at_call 15; refine K15a.mono ?_; clear K15a; rintro e w5 ⟨rfl, hA5, hk5⟩; have KR5 := KR1.out w5 hA5; replace hA5 := hid hA5; replace hk5 := hid hk5) | (go_at_call 13; refine KR5.mono ?_; clear KR5; rintro e w6 ⟨g, rfl, hr6, hE6⟩; replace hr6 := hid hr6; replace hE6 := hid hE6) | fail "no arm")
      have hNN : ((N : Int) == N) = true := by simp
      go_upto_region 19 with fail
      go_loopw [24] (fun q wx => ∃ k : Nat, q = .int .i64 k ∧ k ≤ N ∧ w6 = wx) (fun q _ => (N - (intOf q)).toNat)
      case atStart => exact ⟨0, rfl, Nat.zero_le _, rfl⟩
      case round =>
        obtain ⟨k, rfl, hk, rfl⟩ := hrel
        by_cases hkn : k < N
        · have hcl := hr6.out.cell k (by rw [List.length_replicate]; exact hkn)
          have hz : (List.replicate N (0 : Int)).getD k 0 = 0 := by simp [List.getD, hkn]
          rw [hz] at hcl
          clear hz
          go_wp2_with fail
          go_roundw
          case rel => exact ⟨k + 1, by go_num, by omega, trivial⟩
          case measure => simp [intOf]; omega
        · have hA6 := hA5.out.ext0 hE6.out
          have HK6 : Hid (KeptP K wA w6) := hk5.out.trans (KeptP.ext0 hE6.out hA5.out.hi)
          obtain ⟨v7, w7, hr7, a7, c7, hv7, hs7, _, hE7⟩ := copy_bytes w6 ba bc ys (HY.out.keep hA6.ext (by simp)) hyl _ (Ext.refl _ _) 40
          subst hv7
          have hA7 := hA6.ext0 hE7
          have K16 := hA7.write a a7 c7 ys hs7
          have HK7 : Hid (KeptP K wA w7) := HK6.out.trans (KeptP.ext0 hE7 hA6.hi)
          have HC2 : Hid (Hv H1) := hA6.ok
          obtain ⟨H2, hH2⟩ : ∃ H2, H2 = putH H1 a ys.length (fun j => ys.getD j 0) := ⟨_, rfl⟩
          rw [← hH2] at K16
          have HS : Hid (Hv H2 → ∀ b, b ≠ a → rdO H2 b = rdO H b) := fun h2 b hb => by
            rw [hH2] at h2 ⊢; exact HC.out.same hok HC2.out _ _ h2 hb
          have HEn : Hid (baV H2 (fnd H2 (a + N - 1)) = .tuple #[.int .i64 a, .int .i64 0] ∧ ∃ bv f A s t g : Int, baV H2 (fnd H2 (a + N)) = .tuple #[.int .i64 bv, .int .i64 f] ∧ infV H2 (a + N) (fnd H2 (a + N)) = .tuple #[.agg #[.int .i64 A, .int .i64 s, .int .i64 t, .slice none 0 0], .int .i64 g] ∧ (f ≠ 0 ∨ (f = 0 ∧ g = 0 ∧ A = a + N))) := by
            obtain ⟨e1, e2⟩ := HC.out.ends HC2.out
            show _ ∧ _
            rw [hH2, baV_put, baV_put, infV_put, fnd_put, fnd_put]
            refine ⟨e1, ?_⟩
            rcases e2 with q | ⟨k, j, q, qa⟩
            · rw [q]; exact ⟨0, 4, 0, 0, 0, 4, rfl, rfl, .inl (by decide)⟩
            · rw [q]; simp only [baV, infV]; rw [if_pos qa]; exact ⟨_, _, _, _, _, _, rfl, rfl, .inr ⟨rfl, rfl, rfl⟩⟩
          generalize witE H1 a ys.length = er at *
          generalize ys.length = yl at *
          clear hH2 hA7 hs7 hE7 hA6 HK6 HC HC2 hA5 hk5 hr6 hE6 HY K15 KR1
          go_wp2_with (first | (at_builtin; refine wpList_append_run rfl _ _ 40 rfl _ _ _ rfl rfl hr7 ?_) | (go_at_call 16; refine K16.mono ?_; clear K16; rintro e w8 ⟨rfl, hA8, hk8⟩; replace hA8 := hid hA8; replace hk8 := hid (HK7.out.trans hk8)) | fail "no arm")
          clear hr7
          obtain ⟨hB8, hV8⟩ := HBfin.out w8 hk8.out
          have HB8 := hid hB8
          have HV8 := hid hV8
          have HSm := hid (HS.out hA8.out.ok)
          have KI : Hid (∀ u b, Ext [] w8 u → Calls Tryd.prog 12 #[.pointer (some ⟨p, 0, none⟩), .int .i64 b] u (fun e w' => ∃ A T E : Int, e = .returned (.tuple #[.agg #[.int .i64 A, .int .i64 (szO H2 b), .int .i64 T, .slice none 0 0], .int .i64 E]) ∧ Ext [] u w')) := fun u b hu => (hA8.out.ext0 hu).infoZ b
          have KR : Hid (∀ u b, Ext [] w8 u → Calls Tryd.prog 13 #[.pointer (some ⟨p, 0, none⟩), .int .i64 b, .int .i64 (szO H2 b)] u (fun e w' => ∃ ra, ∃ E : Int, e = .returned (.tuple #[.slice ra (rdO H2 b).length (rdO H2 b).length, .int .i64 E]) ∧ Hid (Bs u w' ra (rdO H2 b)) ∧ Ext [] u w')) := fun u b hu => (hA8.out.ext0 hu).readZ b
          clear hB8 hV8 HS hk8 HBfin HK7
          go_loopw [25] (fun q wr => ∃ i : Nat, q = .int .i64 i ∧ i ≤ ln ∧ Hid (Ext [] w8 wr)) (fun q _ => (ln - (intOf q)).toNat)
          case atStart => exact ⟨0, rfl, Nat.zero_le _, hid (Ext.refl _ _)⟩
          case round =>
            obtain ⟨i, rfl, hi, hEy⟩ := hrel
            by_cases hlt : i < ln
            · have hgt := (HV8.out.keep0 hEy.out).at_ (by rw [HLn.out]; omega)
              obtain ⟨g2, gc, hgv, _, hcell⟩ := hgt
              simp only [Value.slice.injEq] at hgv
              obtain ⟨rfl, hgv1, rfl⟩ := hgv
              clear hgv1
              have hc0 := hcell i (by rw [HLn.out]; exact hlt)
              obtain ⟨b, hb⟩ : ∃ b, b = L.getD i 0 := ⟨_, rfl⟩
              rw [← hb] at hc0
              have HB : Hid (L[i]? = some b) := by
                show L[i]? = some b
                rw [hb]; simp [List.getD, show i < L.length by rw [HLn.out]; exact hlt]
              have hiN : (i : Int) < (ln : Nat) := by omega
              clear hcell hb
              by_cases hba : b = a
              · have hbb : (b == a) = true := by simp [hba]
                clear hba KI KR HSm HEn
                go_wp2_with fail
                go_roundw
                case rel => exact ⟨i + 1, by go_num, by omega, hEy⟩
                case measure => simp [intOf]; omega
              · have hbb : (b == a) = false := by simp [hba]
                have hsm := HSm.out b hba
                have KI1 := KI.out wr b hEy.out
                obtain ⟨g3, c3, rb, hv3, hc3, hrb⟩ := HB8.out.at_ (i := i) (X := rdO H b) (by rw [List.getElem?_map, HB.out]; rfl)
                simp only [Value.slice.injEq] at hv3
                obtain ⟨rfl, hv31, rfl⟩ := hv3
                clear hv31
                have hrl := rdO_len hok b
                have HRB : Hid (∀ u v ra, Ext [] w8 u → Ext [] u v → Bs u v ra (rdO H2 b) → Calls Tryd.prog 17 #[.slice ra (rdO H2 b).length (rdO H2 b).length, .slice rb (rdO H2 b).length (rdO H2 b).length] v (SayPost v (.bool true))) := fun u v ra hu hv h => by
                  rw [hsm] at h ⊢
                  exact same_true _ _ _ _ _ (rdO H b) v (h.sl hrl.2) ((hrb.keep0 (hu.trans hv)).sl hrl.2) rfl (by unfold maxLen; omega)
                rw [← hsm] at hc3
                clear hba hsm hrb hrl HB HSm
                go_upto_region 29 with (first | (go_at_call 12; refine KI1.mono ?_; clear KI1; rintro e w3 ⟨A, T, E, rfl, hE3⟩) | fail "no arm")
                have hE3a : Ext [] wr (w3.alloc (.cells #[.int .i64 A, .int .i64 (szO H2 b), .int .i64 T, .slice none 0 0] 34)) := hE3.trans (Ext.alloc _ _ _)
                have d1 : (w3.alloc (.cells #[.int .i64 A, .int .i64 (szO H2 b), .int .i64 T, .slice none 0 0] 34)).cell? ⟨w3.heap.size, 1, none⟩ = some (.int .i64 (szO H2 b)) := by rw [cell_of_row _ _ _ _ _ _ (heap_alloc_new w3 _)]; rfl
                have hc1 := hE3a.cell hc0 (by simp)
                have HE3 := hid (hEy.out.trans hE3a)
                have HC3 := hid hc3
                clear hc0 hE3 hE3a hc3
                generalize w3.alloc (.cells #[.int .i64 A, .int .i64 (szO H2 b), .int .i64 T, .slice none 0 0] 34) = w4 at *
                generalize w3.heap.size = z3 at *
                have KR4 : Hid (∀ u, Ext [] w4 u → Calls Tryd.prog 13 #[.pointer (some ⟨p, 0, none⟩), .int .i64 b, .int .i64 (szO H2 b)] u (fun e w' => ∃ ra, ∃ E : Int, e = .returned (.tuple #[.slice ra (rdO H2 b).length (rdO H2 b).length, .int .i64 E]) ∧ Hid (Bs u w' ra (rdO H2 b)) ∧ Ext [] u w')) := fun u hu => KR.out u b (HE3.out.trans hu)
                clear KR KI
                have HRB4 : Hid (∀ v ra, Ext [] w4.drew v → Bs w4.drew v ra (rdO H2 b) → Calls Tryd.prog 17 #[.slice ra (rdO H2 b).length (rdO H2 b).length, .slice rb (rdO H2 b).length (rdO H2 b).length] v (SayPost v (.bool true))) := fun v ra hv h => HRB.out _ v ra (HE3.out.trans (Ext.drew _ _)) hv h
                clear HRB
                generalize (rdO H2 b).length = rl at *
                generalize szO H2 b = sz at *
                go_region_held3 (fun w' => w'.cell? ⟨g2, i, none⟩ = some (.int .i64 b) ∧ w'.cell? ⟨z3, 1, none⟩ = some (.int .i64 sz)) (first | exact ⟨h6.cell ((Ext.drew [] _).cell hc1 (by simp)) (by simp), h6.cell ((Ext.drew [] _).cell d1 (by simp)) (by simp)⟩ | go_keep)
                  (first | (go_at_call 13; refine (KR4.out _ (Ext.drew [] _)).mono ?_; rintro e w6 ⟨ra, E6, rfl, hra, h6⟩) | fail "no arm")
                have K17 := HRB4.out w6 ra h6 hra.out
                have hc5 := ((HE3.out.trans (Ext.drew _ _)).trans h6).cell HC3.out (by simp)
                have HE6 := hid ((HE3.out.trans (Ext.drew _ _)).trans h6)
                clear HRB4 KR4 hra h6 HE3 hc1 d1 HC3
                go_wp2_with (first | (go_at_call 17; refine K17.mono ?_; clear K17; rintro e w9 ⟨rfl, hE9⟩; replace hE9 := hid hE9) | fail "no arm")
                go_roundw
                case rel => exact ⟨i + 1, by go_num, by omega, hid (HE6.out.trans hE9.out)⟩
                case measure => simp [intOf]; omega
            · obtain ⟨n1, bv, f, A, s, t, g, n2, n3, hcase⟩ := HEn.out
              have hA9 := hA8.out.ext0 hEy.out
              have K18 := hA9.base (a + N - 1)
              rw [n1] at K18
              have K19 : Hid (∀ u, Ext [] wr u → Calls Tryd.prog 18 #[.pointer (some ⟨p, 0, none⟩), .int .i64 (a + N)] u (SayPost u (.tuple #[.int .i64 bv, .int .i64 f]))) := fun u hu => by have := (hA9.ext0 hu).base (a + N); rw [n2] at this; exact this
              have K20 : Hid (∀ u, Ext [] wr u → Calls Tryd.prog 12 #[.pointer (some ⟨p, 0, none⟩), .int .i64 (a + N)] u (SayPost u (.tuple #[.agg #[.int .i64 A, .int .i64 s, .int .i64 t, .slice none 0 0], .int .i64 g]))) := fun u hu => by have := (hA9.ext0 hu).info (a + N); rw [n3] at this; exact this
              have HE9 := hid hA9.ext
              have e1 : IntKind.i64.wrap (a + N) = a + N := by rw [IntKind.wrap_i64]; omega
              have e2 : IntKind.i64.wrap (a + N - 1) = a + N - 1 := by rw [IntKind.wrap_i64]; omega
              have haa : (a == a) = true := by simp
              clear n1 n2 n3 HEn KI KR HSm HB8 HV8 hA8 hEy hA9 hi
              go_upto_region 35 with (first | (go_at_call 18; refine K18.mono ?_; clear K18; rintro e u1 ⟨rfl, hu1⟩; have K19a := K19.out u1 hu1; replace hu1 := hid hu1) | (go_at_call 18; refine K19a.mono ?_; clear K19a; rintro e u2 ⟨rfl, hu2⟩; replace hu2 := hid (hu1.out.trans hu2); have K20a := K20.out u2 hu2.out) | (go_at_call 12; refine K20a.mono ?_; clear K20a; rintro e u3 ⟨rfl, hu3⟩; replace hu3 := hid (hu2.out.trans hu3)) | fail "no arm")
              have d0 : (u3.alloc (.cells #[.int .i64 A, .int .i64 s, .int .i64 t, .slice none 0 0] 34)).cell? ⟨u3.heap.size, 0, none⟩ = some (.int .i64 A) := by rw [cell_of_row _ _ _ _ _ _ (heap_alloc_new u3 _)]; rfl
              have HE10 := hid (HE9.out.trans (hu3.out.trans (Ext.alloc [] u3 (.cells #[.int .i64 A, .int .i64 s, .int .i64 t, .slice none 0 0] 34))))
              generalize u3.alloc (.cells #[.int .i64 A, .int .i64 s, .int .i64 t, .slice none 0 0] 34) = u4 at *
              generalize u3.heap.size = z4 at *
              rcases hcase with hf | ⟨rfl, rfl, rfl⟩
              · have hf2 : (f == 0) = false := by simpa using hf
                go_wp2_with fail
                go_ret
                exact ⟨rfl, HE10.out⟩
              · have hanN : ((a + N : Int) == a + N) = true := by simp
                go_wp2_with fail
                go_ret
                exact ⟨rfl, HE10.out⟩

end Go.Proofs.YtlajjcboahflbaaDoor
