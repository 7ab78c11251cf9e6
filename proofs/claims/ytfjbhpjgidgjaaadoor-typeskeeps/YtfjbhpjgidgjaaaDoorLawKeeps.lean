/-
  A table that is handed in stays as it is, spare room too, and answers have memory of their own: the function TypesKeeps answers true and leaves its arguments as they were, for every table, all bytes and every number; the condition is what the program's own table of parts holds when the call begins.
-/
import Derived.Test.YtfjbhpjgidgjaaaDoorKeepAux
import Derived.Test.YtfjbhpjgidgjaaaDoorTie
import Derived.Test.YtfjbhpjgidgjaaaDoorCards
namespace Go.Proofs.YtfjbhpjgidgjaaaDoor
open Go.RowKit

set_option maxRecDepth 100000 in
set_option maxHeartbeats 8000000 in
theorem keepsOf (a : Option Addr) (ts : List Ty) (n c : Nat) (a1 : Option Addr) (L : List Int) (n1 c1 : Nat) (t : Int) (w : World) (hT : Tab w a ts) (hn : ts.length = n) (hfb : ∀ i, i < n → (tyAt ts i).fields.length ≤ 17592186043904) (hI : Inp w a1 n1 c1 L) (hG : Gl w) :
    Calls Tryd.prog 8 #[.slice a n c, .slice a1 n1 c1, .int .i64 t] w (SayPost w (.bool true)) := by
  have HT := hid hT
  have HN := hid hn
  have HI := hid hI
  have HG := hid hG
  have HFB := hid hfb
  have hln := hT.len
  rw [hn] at hln
  clear hT hn hI hG hfb
  obtain ⟨hz57, _⟩ := zero_of_info zero57
  go_enter Tryd.func8, Tryd.ntmps8
  go_wp2_with fail
  refine (awake_any w HG.out).mono ?_
  rintro e w1 ⟨rfl, hE1⟩
  have HE1 := hid hE1
  clear hE1
  go_wp2_with fail
  go_loopg [7, 8] n (fun g lv u wr => ∃ k G, k + g = n ∧ u = .int .i64 (k : Nat) ∧ wr.ownsRow w.heap.size 48 5 lv k (rows ts G k) ∧ Fm w wr ts G k ∧ Ext [] w wr)
  case atStart => exact ⟨0, fun _ => (none, 0), by omega, rfl, own_nil _ _ _ _, fun i hi => by omega, HE1.out⟩
  case round =>
    obtain ⟨k, G, hkg, rfl, hO, hFm, hE⟩ := hrel
    have HO := hid hO
    have HFm := hid hFm
    have HE := hid hE
    clear hO hFm hE
    cases gk with
    | succ g =>
      obtain ⟨b, o, rfl, hta⟩ := HT.out.addr (by rw [HN.out]; omega)
      obtain ⟨fa, fc, htt⟩ := hta k (by rw [HN.out]; omega)
      have HFo := hid htt.f
      obtain ⟨c0, c1', c2, c3, c4, _⟩ := htt.keep0 HE.out
      clear hta htt
      have hE0 := Ext.alloc [] wr (.cells #[.int .i64 (tyAt ts k).kind, .int .i64 (tyAt ts k).elem, .int .i64 (tyAt ts k).key, .int .i64 (tyAt ts k).len, .slice fa (tyAt ts k).fields.length fc] 48)
      have HOne : Hid (OneAt (wr.alloc (.cells #[.int .i64 (tyAt ts k).kind, .int .i64 (tyAt ts k).elem, .int .i64 (tyAt ts k).key, .int .i64 (tyAt ts k).len, .slice fa (tyAt ts k).fields.length fc] 48)) wr.heap.size (tyAt ts k) fa fc) := heap_alloc_new wr _
      have K := roomy_any fa (tyAt ts k).fields.length fc (tyAt ts k).fields _ (HFo.out.1.keep0 (HE.out.trans hE0)) rfl (HFB.out k (by omega))
      have HE0 := hid hE0
      have HTe : Hid (∀ y, y = tyAt ts k → y = tyAt ts k) := fun _ h => h
      obtain ⟨ty, hty⟩ : ∃ ty, ty = tyAt ts k := ⟨_, rfl⟩
      have HTy := hid hty
      rw [← hty] at c0 c1' c2 c3 c4 K HOne HE0
      clear hE0 hty HTe
      go_wp2_with fail
      refine K.mono ?_
      clear K
      rintro e w2 ⟨g2, cap2, rfl, hR2, hE2⟩
      have hone2 := HOne.out.keep hE2 (by simp)
      obtain ⟨d0, d1, d2, d3, d4, df⟩ := hone2.cells
      have hlt2 : wr.heap.size < w2.heap.size := lt_of_heap hone2
      have hE02 := HE0.out.trans hE2
      have hS3 := Ext.setCell [wr.heap.size] w2 ⟨wr.heap.size, 4, none⟩ (.slice (some ⟨g2, 0, none⟩) ty.fields.length cap2) (by simp)
      have hE4 := Ext.alloc [] (w2.setCell ⟨wr.heap.size, 4, none⟩ (.slice (some ⟨g2, 0, none⟩) ty.fields.length cap2)) (.cells #[.int .i64 ty.kind, .int .i64 ty.elem, .int .i64 ty.key, .int .i64 ty.len, .slice (some ⟨g2, 0, none⟩) ty.fields.length cap2] 48)
      have hr4 := own_keep0 (own_keep (own_keep0 HO.out hE02) hS3 (by simp; exact fun h => by have := own_lt HO.out _ h; omega)) hE4
      have hEw : Ext [] w ((w2.setCell ⟨wr.heap.size, 4, none⟩ (.slice (some ⟨g2, 0, none⟩) ty.fields.length cap2)).alloc (.cells #[.int .i64 ty.kind, .int .i64 ty.elem, .int .i64 ty.key, .int .i64 ty.len, .slice (some ⟨g2, 0, none⟩) ty.fields.length cap2] 48)) := ((HE.out.trans hE02).on hS3 (by simp; exact HE.out.size)).trans hE4
      obtain ⟨v5, w5, hap, hO5, hX5⟩ := app5l _ w.heap.size hEw.size u7 k _ hr4 w2.heap.size ty (some ⟨g2, 0, none⟩, cap2) (by have := heap_alloc_new (w2.setCell ⟨wr.heap.size, 4, none⟩ (.slice (some ⟨g2, 0, none⟩) ty.fields.length cap2)) (.cells #[.int .i64 ty.kind, .int .i64 ty.elem, .int .i64 ty.key, .int .i64 ty.len, .slice (some ⟨g2, 0, none⟩) ty.fields.length cap2] 48); simpa using this) (by omega)
      have HE5 := hid (hEw.on hX5 (fun x hx => (own_lt hr4 x (by simpa using hx)).1))
      have HO5 : Hid (w5.ownsRow w.heap.size 48 5 v5 (k + 1) (rows ts (fun i => if i = k then (some ⟨g2, 0, none⟩, cap2) else G i) (k + 1))) := by
        rw [← rows_next, ← HTy.out]; exact hO5
      have HF5 : Hid (Fm w w5 ts (fun i => if i = k then (some ⟨g2, 0, none⟩, cap2) else G i) (k + 1)) := by
        intro i hi
        by_cases e : i = k
        · subst e
          simp only [if_true]
          refine ⟨g2, rfl, ?_⟩
          rw [← HTy.out]
          have h2 : Rm w w2 g2 ty.fields.length cap2 ty.fields := ⟨hR2.1, own_base hR2.2 (by have := HE.out.size; simp; omega)⟩
          have h3 : w2.ownsRow w.heap.size 3 1 (.slice (some ⟨g2, 0, none⟩) (ty.fields.length + 7) cap2) (ty.fields.length + 7) _ := h2.2
          have h4 := own_keep0 (own_keep h3 hS3 (by simpa using own_ne h3 hone2 (by decide))) hE4
          exact ⟨h2.1, own_keep h4 hX5 (own_apart h4 hr4 (by decide))⟩
        · simp only [e, if_false]
          obtain ⟨gi, hg1, hg2⟩ := HFm.out i (by omega)
          refine ⟨gi, hg1, hg2.1, ?_⟩
          have h2 := own_keep0 hg2.2 hE02
          have h4 := own_keep0 (own_keep h2 hS3 (by simpa using own_ne h2 hone2 (by decide))) hE4
          exact own_keep h4 hX5 (own_apart h4 hr4 (by decide))
      clear hR2 hE2 hone2 hE02 hS3 hE4 hr4 hEw hO5 hX5
      go_wp2_with (at_builtin; refine wpList_append_run rfl _ _ 22 rfl _ _ _ rfl rfl hap ?_)
      go_roundg g
      case measure => omega
      case rel => exact ⟨k + 1, _, by omega, by go_num, HO5.out, HF5.out, HE5.out⟩
    | zero =>
      obtain rfl : k = n := by omega
      obtain ⟨w2, hw2⟩ : ∃ x, x = wr := ⟨_, rfl⟩
      subst hw2
      obtain ⟨la, lc, rfl, hlc⟩ := own_slice HO.out
      have HIs : Hid (∀ W, Ext [] w2 W → Tab W la ts) := fun W h => tab_rows (own_keep0 HO.out h) HN.out hln (fun i hi => by
        obtain ⟨g, h1, h2⟩ := HFm.out.keep0 h i hi
        rw [h1]
        exact ⟨(h2.cell rfl).1, by have := HFB.out i hi; omega⟩)
      have hkm : ¬ ((k : Int) < k) := by omega
      go_wp2_with fail
      refine (check_any la ts k lc w2 (HIs.out w2 (Ext.refl _ _)) HN.out hlc (HG.out.keep0 HE.out)).mono ?_
      rintro e w3 ⟨rfl, hE3⟩
      have HX3 := hid hE3
      clear hE3
      go_wp2_with fail
      refine (encode_any la ts k lc w3 (HIs.out w3 HX3.out) HN.out hlc (HG.out.keep0 (HE.out.trans HX3.out))).mono ?_
      rintro e w4 ⟨v4, rfl, hO4, hE4⟩
      obtain ⟨oa, oc, rfl, _⟩ := own_slice hO4
      have HX4 := hid (HX3.out.trans hE4)
      have HO4 := hid hO4
      have HOl := hid (own_lt hO4)
      clear hE4 hO4
      go_wp2_with fail
      refine (encode_any la ts k lc w4 (HIs.out w4 HX4.out) HN.out hlc (HG.out.keep0 (HE.out.trans HX4.out))).mono ?_
      rintro e w5 ⟨v5, rfl, hO5, hE5⟩
      obtain ⟨ma, mc, rfl, _⟩ := own_slice hO5
      have HX5 := hid (HX4.out.trans hE5)
      have HO45 := hid (own_keep0 HO4.out hE5)
      have HO5 := hid hO5
      clear hE5 hO5 HO4
      go_wp2_with fail
      refine (pointers_any la ts k lc t w5 (HIs.out w5 HX5.out) HN.out hlc (HG.out.keep0 (HE.out.trans HX5.out))).mono ?_
      rintro e w6 ⟨pa, pc, rfl, _, hE6, hP6⟩
      have HX6 := hid (HX5.out.trans hE6)
      have HO46 := hid (own_keep0 HO45.out hE6)
      have HO56 := hid (own_keep0 HO5.out hE6)
      have HP6 := hid hP6
      have HPl := hid (own_lt hP6)
      clear hE6 hP6 HO45 HO5
      go_wp2_with fail
      refine (pointers_any la ts k lc t w6 (HIs.out w6 HX6.out) HN.out hlc (HG.out.keep0 (HE.out.trans HX6.out))).mono ?_
      rintro e w7 ⟨qa, qc, rfl, _, hE7, hQ7⟩
      have HX7 := hid (HX6.out.trans hE7)
      have HO47 := hid (own_keep0 HO46.out hE7)
      have HO57 := hid (own_keep0 HO56.out hE7)
      have HP7 := hid (own_keep0 HP6.out hE7)
      have HQ7 := hid hQ7
      clear hE7 hQ7 HO46 HO56 HP6
      go_wp2_with fail
      refine (decode_apart a1 L n1 c1 w7 (HI.out.keep0 (HE.out.trans HX7.out)) (HG.out.keep0 (HE.out.trans HX7.out))).mono ?_
      obtain ⟨us, y, z, hd⟩ : ∃ us y z, dec L = (us, y, z) := ⟨_, _, _, rfl⟩
      have HD := hid hd
      rw [hd]
      clear hd
      rintro e w8 ⟨xa, xc, GX, rfl, hxc, hCx, hTx, hE8, hAx⟩
      simp only at hxc hCx hTx hAx
      have HAx := hid hAx
      clear hAx
      have HX8 := hid (HX7.out.trans hE8)
      have HO48 := hid (own_keep0 HO47.out hE8)
      have HO58 := hid (own_keep0 HO57.out hE8)
      have HP8 := hid (own_keep0 HP7.out hE8)
      have HQ8 := hid (own_keep0 HQ7.out hE8)
      have HCx := hid hCx
      have HTx := hid hTx
      have HXl := hid (own_lt hCx.own)
      have HXfl : Hid (∀ i, i < us.length → ∀ g, Value.ownBlock (.slice (GX i).1 (tyAt us i).fields.length (GX i).2) = some g → w7.heap.size ≤ g ∧ g < w8.heap.size) := fun i hi => own_lt (hCx.fs i hi)
      clear hE8 hCx hTx HO47 HO57 HP7 HQ7
      go_wp2_with fail
      refine (decode_apart a1 L n1 c1 w8 (HI.out.keep0 (HE.out.trans HX8.out)) (HG.out.keep0 (HE.out.trans HX8.out))).mono ?_
      rw [HD.out]
      rintro e w9 ⟨ya, yc, GY, rfl, hyc, hCy, hTy, hE9, hAy⟩
      simp only at hyc hCy hTy hAy
      have HAy := hid hAy
      clear hAy
      have HX9 := hid (HX8.out.trans hE9)
      have HO49 := hid (own_keep0 HO48.out hE9)
      have HO59 := hid (own_keep0 HO58.out hE9)
      have HP9 := hid (own_keep0 HP8.out hE9)
      have HQ9 := hid (own_keep0 HQ8.out hE9)
      have HCx9 := hid (HCx.out.keep0 hE9)
      have HTx9 := hid (HTx.out.keep0 hE9)
      have HCy := hid hCy
      have HTy := hid hTy
      clear hE9 hCy hTy HO48 HO58 HP8 HQ8 HCx HTx
      simp only
      go_wp2_with fail
      go_loopg [24] k (fun g u wr => ∃ i, i + g = k ∧ u = .int .i64 (i : Nat) ∧ Ext [] w9 wr)
      case atStart => exact ⟨0, by omega, rfl, Ext.refl _ _⟩
      case round =>
        obtain ⟨i, hig, rfl, hE⟩ := hrel
        have HEi := hid hE
        clear hE
        cases gk with
        | succ g =>
          obtain ⟨b, o, rfl, hta⟩ := HT.out.addr (by rw [HN.out]; omega)
          obtain ⟨fa, fc, htt⟩ := hta i (by rw [HN.out]; omega)
          obtain ⟨lb, rfl, hcl⟩ := rows_cells (own_keep0 HO.out (HX9.out.trans HEi.out)) (by omega)
          have h4 := (hcl i (by omega)).2
          have h5 := (htt.keep0 (HE.out.trans (HX9.out.trans HEi.out))).c4
          obtain ⟨gi, hg1, hg2⟩ := HFm.out.keep0 (HX9.out.trans HEi.out) i (by omega)
          rw [hg1] at h4
          have HKK : Hid (∀ W, Ext [] wr W → Calls Tryd.prog 29 #[.slice (some ⟨gi, 0, none⟩) (tyAt ts i).fields.length (G i).2, .slice fa (tyAt ts i).fields.length fc] W (SayPost W (.bool true))) := fun W h => kept_true w W gi _ _ (tyAt ts i).fields fa fc (hg2.keep h (by simp)) (htt.f.1.keep0 ((HE.out.trans (HX9.out.trans HEi.out)).trans h)) rfl (by have := HFB.out i (by omega); omega)
          have HSS : Hid (∀ W, Ext [] wr W → W.cell? ⟨lb, i * 5 + 4, none⟩ = some (.slice (some ⟨gi, 0, none⟩) (tyAt ts i).fields.length (G i).2) ∧ W.cell? ⟨b, o + i * 5 + 4, none⟩ = some (.slice fa (tyAt ts i).fields.length fc)) := fun W h => ⟨h.cell h4 (by simp), h.cell h5 (by simp)⟩
          clear hta htt hcl hg2 hg1
          generalize (tyAt ts i).fields.length = fl at *
          generalize (G i).2 = gcap at *
          go_wp2_with fail
          go_region_held3 (fun w' => w'.cell? ⟨lb, i * 5 + 4, none⟩ = some (.slice (some ⟨gi, 0, none⟩) fl gcap) ∧ w'.cell? ⟨b, o + i * 5 + 4, none⟩ = some (.slice fa fl fc))
            (first | exact HSS.out _ hX5 | exact HSS.out _ (Ext.drew [] _))
            (first | (go_at_call 29; refine (HKK.out _ (Ext.drew [] _)).mono ?_; rintro e v5 ⟨rfl, hE5⟩; have hX5 : Ext [] wr v5 := (Ext.drew [] _).trans hE5))
          all_goals
            have HX := hid (HEi.out.trans hX5)
            clear hX5
            go_wp2_with fail
            go_roundg g
            case measure => omega
            case rel => exact ⟨i + 1, by omega, by go_num, HX.out⟩
        | zero =>
          have hik : ¬ ((i : Int) < k) := by omega
          obtain ⟨wa, hwa⟩ : ∃ x, x = wr := ⟨_, rfl⟩
          subst hwa
          have HXa := hid (HX9.out.trans HEi.out)
          go_wp2_with fail
          refine (same_true la a k lc c ts wa (HIs.out wa HXa.out) (HT.out.keep0 (HE.out.trans HXa.out)) HN.out).mono ?_
          rintro e wb ⟨rfl, hEb⟩
          have HXb := hid (HEi.out.trans hEb)
          clear hEb
          go_wp2_with fail
          refine (same_true xa ya us.length xc yc us wb (HTx9.out.keep0 HXb.out) (HTy.out.keep0 HXb.out) rfl).mono ?_
          rintro e wc ⟨rfl, hEc⟩
          have HXc := hid (HXb.out.trans hEc)
          clear hEc
          have hel : (encR ts).length ≤ 40000 := by
            by_cases hs : Sound ts
            · rw [encR_yes hs]
              have h1 := encMany_len hs ts.length (Nat.le_refl _)
              rw [List.take_length] at h1
              have h2 := vb_len5 (n := ts.length) (by have := hs.1; omega)
              have := hs.1
              unfold encTab
              simp only [List.length_append]
              omega
            · rw [encR_no hs]; simp
          have KS := sameBytes_true oa ma (encR ts).length oc mc (encR ts) wc ((own_vs HO49.out : Bs w9 oa (encR ts)).keep0 HXc.out) ((own_vs HO59.out : Bs w9 ma (encR ts)).keep0 HXc.out) rfl (by omega)
          go_wp2_with fail
          refine KS.mono ?_
          clear KS
          rintro e wd ⟨rfl, hEd⟩
          have HXd := hid (HXc.out.trans hEd)
          clear hEd
          have hpl : (mo ts t).ptrs.length ≤ 1000 := by
            by_cases hb : bad ts t = 0
            · obtain ⟨hs, t0, t1⟩ := bad_zero hb
              obtain ⟨j, rfl⟩ : ∃ j : Nat, t = j := ⟨t.toNat, by omega⟩
              obtain ⟨hfit, h16⟩ := sound_fit hs (i := j) (by omega)
              have hpl := hfit.len
              have hpd := hfit.dw
              rw [mo_ok hb]
              omega
            · rw [mo_no hb]; simp [zeroMe]
          have KB := sameBools_true pa qa (mo ts t).ptrs.length pc qc (mo ts t).ptrs wd ((own_vs HP9.out : Os w9 pa (mo ts t).ptrs).keep0 HXd.out) ((own_vs HQ9.out : Os w9 qa (mo ts t).ptrs).keep0 HXd.out) rfl hpl
          go_wp2_with fail
          refine KB.mono ?_
          clear KB
          rintro e we ⟨rfl, hEe⟩
          have HXe := hid (HXd.out.trans hEe)
          clear hEe
          generalize hps : (mo ts t).ptrs = ps at *
          clear hps
          go_wp2_with fail
          have HPe := hid (own_keep0 HP9.out HXe.out)
          have HQe := hid (own_keep0 HQ9.out HXe.out)
          have HP0 : Hid (we.ownsRow w5.heap.size 4 1 (.slice pa ps.length pc) ps.length ((flipN ps 0).map Value.bool)) := by
            have e0 : flipN ps 0 = ps := by simp [flipN]
            rw [e0]; exact HPe.out
          go_loopg [25] ps.length (fun g u wr => ∃ i, i + g = ps.length ∧ u = .int .i64 (i : Nat) ∧ wr.ownsRow w5.heap.size 4 1 (.slice pa ps.length pc) ps.length ((flipN ps i).map Value.bool) ∧ Ext (Value.ownBlock (.slice pa ps.length pc)).toList we wr)
          case atStart => exact ⟨0, by omega, rfl, HP0.out, Ext.refl _ _⟩
          case round =>
            clear HP0
            obtain ⟨i2, hig2, rfl, hOp, hEp⟩ := hrel
            have HOp := hid hOp
            have HEp := hid hEp
            clear hOp hEp
            cases gk with
            | succ g =>
              obtain ⟨pb, pc', hpv, _⟩ := own_some HOp.out (by omega)
              obtain ⟨qb, qc', hqv, _⟩ := own_some HQe.out (by omega)
              simp only [Value.slice.injEq, true_and] at hpv hqv
              obtain ⟨rfl, rfl⟩ := hpv
              obtain ⟨rfl, rfl⟩ := hqv
              have hpb := HPl.out pb rfl
              have hqb := own_lt HQe.out qb rfl
              have hpq : qb ≠ pb := by omega
              have hcp : wr.cell? ⟨pb, i2, none⟩ = some (.bool (ps.getD i2 false)) := by
                rcases own_vs HOp.out with h0 | ⟨b, o, h1, hc⟩
                · have := congrArg List.length h0
                  simp only [List.length_map, flipN_len, List.length_nil] at this
                  omega
                · simp only [Option.some.injEq, Addr.mk.injEq] at h1
                  obtain ⟨rfl, rfl, _⟩ := h1
                  have := hc i2 (by simp [flipN_len]; omega)
                  rw [Nat.zero_add] at this
                  rw [this, List.getElem?_map, flipN_at ps i2 (by omega)]; rfl
              have hcq : wr.cell? ⟨qb, i2, none⟩ = some (.bool (ps.getD i2 false)) := by
                have hv : Os we (some ⟨qb, 0, none⟩) ps := own_vs HQe.out
                obtain ⟨b, o, h1, hc⟩ := hv.at_ (by intro h; rw [h] at hig2; simp at hig2)
                simp only [Option.some.injEq, Addr.mk.injEq] at h1
                obtain ⟨rfl, rfl, _⟩ := h1
                have := hc i2 (by omega)
                rw [Nat.zero_add] at this
                exact HEp.out.cell this (by simpa [Value.ownBlock] using hpq)
              obtain ⟨cur, hcur⟩ := own_at HOp.out (q := pb) rfl
              have hfz := frozen_of_row _ _ i2 _ _ hcur
              have HO3 : Hid ((wr.setCell ⟨pb, i2, none⟩ (.bool (!(ps.getD i2 false)))).ownsRow w5.heap.size 4 1 (.slice (some ⟨pb, 0, none⟩) ps.length pc) ps.length ((flipN ps (i2 + 1)).map Value.bool)) := by
                have := own_set HOp.out i2 (.bool (!(ps.getD i2 false)))
                rw [← flipN_next ps i2 (by omega), List.map_set]
                exact this
              have HE3 : Hid (Ext (Value.ownBlock (.slice (some ⟨pb, 0, none⟩) ps.length pc)).toList we (wr.setCell ⟨pb, i2, none⟩ (.bool (!(ps.getD i2 false))))) := HEp.out.trans (Ext.setCell _ _ _ _ (by simp [Value.ownBlock]))
              clear hcur hpb hqb
              generalize ps.getD i2 false = x at *
              cases x
              all_goals
                simp only [Bool.not_false, Bool.not_true] at HO3 HE3
                go_wp2_with fail
                go_quiet (fail)
                go_wp2_with fail
                go_roundg g
                case measure => omega
                case rel => exact ⟨i2 + 1, by omega, by go_num, own_keep0 HO3.out (Ext.drewN [] _ _), HE3.out.trans (Ext.drewN _ _ _)⟩
            | zero =>
              have hi2 : ¬ ((i2 : Int) < ps.length) := by omega
              obtain ⟨wf, hwf⟩ : ∃ x, x = wr := ⟨_, rfl⟩
              subst hwf
              have HXf := hid HXe.out
              have hcx9 := own_keep0 HCx9.out.own HXe.out
              have hcy9 := own_keep0 HCy.out.own HXe.out
              have HXr := hid (own_keep hcx9 HEp.out (own_apart hcx9 HPe.out (by decide)))
              have HYr := hid (own_keep hcy9 HEp.out (own_apart hcy9 HPe.out (by decide)))
              clear hcx9 hcy9
              obtain ⟨m, hm⟩ : ∃ m, us.length = m := ⟨_, rfl⟩
              have HM := hid hm
              obtain ⟨eL, heL⟩ : ∃ eL, (encR ts).length = eL := ⟨_, rfl⟩
              have HeL := hid heL
              rw [hm] at HXr HYr hxc hyc
              have HD0 : Hid (∀ W, W = (wf.alloc (.cells #[.slice oa eL oc, .slice ma eL mc] 36)).alloc (.cells #[.slice none 0 0, .slice none 0 0, .slice (some ⟨wf.heap.size, 0, none⟩) 2 2, .slice none 0 0] 57) → Dd wf w7 wf.heap.size (wf.heap.size + 1) xa xc m us GX GY (.slice oa eL oc) (.slice ma eL mc) 0 W none 0 (rows us GX m)) := fun W hW => by
                subst hW
                have hE1 := Ext.alloc [] wf (.cells #[.slice oa eL oc, .slice ma eL mc] 36)
                have hE2 := Ext.alloc [] (wf.alloc (.cells #[.slice oa eL oc, .slice ma eL mc] 36)) (.cells #[.slice none 0 0, .slice none 0 0, .slice (some ⟨wf.heap.size, 0, none⟩) 2 2, .slice none 0 0] 57)
                refine ⟨heap_alloc2_new _ _ _, own_nil _ _ _ _, hE2.keep (heap_alloc_new _ _) (by simp), own_keep0 HXr.out (hE1.trans hE2), fun j hj => ?_, (hE1.trans hE2).mono (by simp)⟩
                rw [rows_get us GX m j 4 hj (by omega)]; rfl
              have HXl2 : Hid (∀ g, Value.ownBlock (.slice xa m xc) = some g → w7.heap.size ≤ g ∧ g < w8.heap.size) := by
                have := HXl.out
                rw [hm] at this
                exact this
              simp only [hm, heL]
              clear hm heL
              go_wp2_with fail
              go_loopg [27] m (fun g u wr => ∃ i ia ci xs, i + g = m ∧ u = .int .i64 (i : Nat) ∧ Dd wf w7 wf.heap.size (wf.heap.size + 1) xa xc m us GX GY (.slice oa eL oc) (.slice ma eL mc) i wr ia ci xs)
              case atStart => exact ⟨0, none, 0, _, by omega, rfl, HD0.out _ rfl⟩
              case round =>
                clear HD0
                obtain ⟨i3, ia, ci, xs, hi3, rfl, hDd⟩ := hrel
                have HDd := hid hDd
                clear hDd
                cases gk with
                | succ g =>
                  have hsu := dec_okK HD.out (by intro h; have := HM.out; rw [h] at this; simp at this; omega)
                  have hm64 : m ≤ 64 := by rw [← HM.out]; exact hsu.1
                  have hkk := (hsu.small (i := i3) (by rw [HM.out]; omega)).1.k0
                  obtain ⟨xb, xc', hxv, _⟩ := own_some HDd.out.xrow (by omega)
                  simp only [Value.slice.injEq, true_and] at hxv
                  obtain ⟨rfl, rfl⟩ := hxv
                  have hxb := HXl2.out xb rfl
                  have hyw := own_lt HYr.out
                  have hYw := own_keep HYr.out HDd.out.ext (by
                    intro q hq
                    simp [Value.ownBlock] at hq
                    subst hq
                    intro h
                    have := hyw _ h
                    omega)
                  obtain ⟨yb, rfl, hyc2⟩ := rows_cells hYw (by omega)
                  obtain ⟨hy0, hy4⟩ := hyc2 i3 (by omega)
                  have hyb := hyw yb rfl
                  have hxy : yb ≠ xb := by omega
                  obtain ⟨xcur, hxcur⟩ := own_at HDd.out.xrow (q := xb) rfl
                  have hxc4 : wr.cell? ⟨xb, i3 * 5 + 4, none⟩ = some (fl us GX i3) ∧ ∃ u, wr.cell? ⟨xb, i3 * 5, none⟩ = some u := by
                    rcases HDd.out.xrow.2 with ⟨h1, _⟩ | ⟨g', cap, cur, h0, h1, h2, h3, h4, h5, h6⟩
                    · cases h1
                    · cases h0
                      have hx4 := HDd.out.xf i3 (by omega)
                      rw [← h6, List.getElem?_take, if_pos (by omega)] at hx4
                      refine ⟨by rw [cell_of_row _ _ _ _ _ _ h2]; simpa using hx4, ?_⟩
                      rw [cell_of_row _ _ _ _ _ _ h2]
                      have hl := HDd.out.xrow.1
                      rw [← h6] at hl
                      simp at hl
                      exact ⟨_, Array.getElem?_eq_getElem (by omega)⟩
                  obtain ⟨hx4, ux, hx0⟩ := hxc4
                  have hk0 : wr.cell? ⟨wf.heap.size + 1, 0, none⟩ = some (.slice ia (2 * i3) ci) := by rw [cell_of_row _ _ _ _ _ _ HDd.out.book]; rfl
                  have hkf := frozen_of_row _ _ 0 _ _ HDd.out.book
                  have hxf := frozen_of_row _ _ (i3 * 5) _ _ hxcur
                  have hkl : wf.heap.size + 1 < wr.heap.size := lt_of_heap HDd.out.book
                  obtain ⟨i45, hi45, hz0, hz1, hz2⟩ := info_parts info45
                  have HI45 := hid hi45
                  have HZ45 := hid hz0
                  unfold fl at hx4
                  have HYw := hid hYw
                  have HXat := hid hxcur
                  clear hi45 hz0 hyw hYw hyc2 hxcur
                  have hxlt : xb < wf.heap.size := (own_lt HXr.out xb rfl).2
                  have hylt : yb < wf.heap.size := (own_lt HYr.out yb rfl).2
                  have hxk : xb ≠ wf.heap.size + 1 := by omega
                  have hyk : yb ≠ wf.heap.size + 1 := by omega
                  obtain ⟨fx, hfx⟩ : ∃ fx, fx = fl us GX i3 := ⟨_, rfl⟩
                  obtain ⟨fy, hfy⟩ : ∃ fy, fy = fl us GY i3 := ⟨_, rfl⟩
                  have HIL : Hid (intsL us GX GY (i3 + 1) = intsL us GX GY i3 ++ [fl us GX i3, fl us GY i3]) := rfl
                  clear hfx hfy fx fy
                  generalize hflx : (tyAt us i3).fields.length = lx at *
                  have hEW : Ext [] wr (wr.drew.alloc (.cells #[.slice (GX i3).1 lx (GX i3).2, .slice (GY i3).1 lx (GY i3).2] 45)) := (Ext.drew [] _).trans (Ext.alloc [] _ _)
                  have hOa := own_keep0 HDd.out.ints hEW
                  have hnews : ∀ j u, [Value.slice (GX i3).1 lx (GX i3).2, .slice (GY i3).1 lx (GY i3).2][j]? = some u → (wr.drew.alloc (.cells #[.slice (GX i3).1 lx (GX i3).2, .slice (GY i3).1 lx (GY i3).2] 45)).cell? (Addr.add ⟨wr.heap.size, 0, none⟩ j) = some u := fun j u hu => by
                    rw [Addr.add_lit, cell_of_row _ _ _ _ _ _ (show (wr.drew.alloc (.cells #[.slice (GX i3).1 lx (GX i3).2, .slice (GY i3).1 lx (GY i3).2] 45)).heap[wr.heap.size]? = _ from heap_alloc_new wr.drew _), Nat.zero_add, ← hu]; simp
                  have HEW := hid hEW
                  have HOa := hid hOa
                  have HNw := hid hnews
                  have hwb : wf.heap.size ≤ (wr.drew.alloc (.cells #[.slice (GX i3).1 lx (GX i3).2, .slice (GY i3).1 lx (GY i3).2] 45)).heap.size := by have := HEW.out.size; omega
                  have HWb := hid hwb
                  have HFlx := hid hflx
                  have HML : Hid (2 * i3 + 2 ≤ maxLen) := by show _ ≤ _; unfold maxLen; omega
                  have HBy : Hid ((2 * i3 + 2) * 24 ≤ 140737488355328) := by show _ ≤ _; omega
                  have H1c : Hid (∀ u ∈ [Value.slice (GX i3).1 lx (GX i3).2, .slice (GY i3).1 lx (GY i3).2], u.oneCell' = true) := by
                    show ∀ u ∈ _, _
                    simp [Value.oneCell']
                  clear hEW hOa hnews hwb hflx
                  go_wp2_with fail
                  go_region_law (refine step_append_lies _ (by rfl) _ _ _ (by rfl) wf.heap.size 45 i45 _ 1 24 Tryd.underlying53 HI45.out HZ45.out hz1 hz2 rfl (by decide) (.slice ia (2 * i3) ci) (2 * i3) (intsL us GX GY i3) (by rfl) HOa.out ⟨wr.heap.size, 0, none⟩ 2 2 [.slice (GX i3).1 lx (GX i3).2, .slice (GY i3).1 lx (GY i3).2] (by rfl) (by rfl) HNw.out H1c.out Nat.zero_lt_two HML.out HBy.out HWb.out _ rfl ?_; intro ga gcap wz hO8 hgrow hat hlt8; have hX8 := ext_grown hgrow; have hbk := book_ext HDd.out.book HEW.out HOa.out hX8; have k4 := book0 hbk; have kf := frozen_of_row _ _ 0 _ _ hbk; clear hgrow hat hlt8)
                  all_goals
                    have hO8' : wz.ownsRow wf.heap.size 45 1 (.slice (some ⟨ga, 0, none⟩) (2 * i3 + 2) gcap) (2 * i3 + 2) (intsL us GX GY i3 ++ [fl us GX i3, fl us GY i3]) := by
                      unfold fl
                      rw [HFlx.out]
                      exact hO8
                    have HDn := hid (dd_next HDd.out HEW.out HOa.out hO8' hX8 (by omega) (by omega) hxk)
                    have hxz := own_keep0 HDd.out.xrow HEW.out
                    have hyz := own_keep0 HYw.out HEW.out
                    have nx : xb ∉ (Value.ownBlock (.slice ia (2 * i3) ci)).toList := fun h => own_apart hxz HOa.out (by decide) xb h rfl
                    have ny : yb ∉ (Value.ownBlock (.slice ia (2 * i3) ci)).toList := fun h => own_apart hyz HOa.out (by decide) yb h rfl
                    have x0z := hX8.cell (HEW.out.cell hx0 (by simp)) nx
                    have y0z := hX8.cell (HEW.out.cell hy0 (by simp)) ny
                    have xfz : wz.frozen? ⟨xb, i3 * 5, none⟩ = false := by
                      obtain ⟨cur2, hcur2⟩ := own_at (own_keep hxz hX8 (own_apart hxz HOa.out (by decide))) (q := xb) rfl
                      exact frozen_of_row _ _ _ _ _ hcur2
                    clear hO8' hO8 hX8 hxz hyz nx ny hbk k4 kf hx0 hy0 hx4 hy4 hk0 hkf hxf
                    go_wp2_with fail
                    go_roundg g
                    case measure => omega
                    case rel => exact ⟨i3 + 1, some ⟨ga, 0, none⟩, gcap, _, by omega, by go_num, HDn.out⟩
                | zero =>
                  obtain rfl : i3 = m := by omega
                  have HZ : Hid (∃ hi I B, (ia = some ⟨hi, 0, none⟩ ∨ 2 * i3 = 0) ∧ Bk 3 wr hi (2 * i3) I ∧ (∀ w', Ext (blks (2 * i3) I) wr w' → Bk 5 w' wf.heap.size 2 B) ∧ wf.heap.size + 1 ∉ blks (2 * i3) I ∧ wf.heap.size + 1 ∉ blks 2 B ∧ (∀ b ∈ blks (2 * i3) I ++ blks 2 B, w.heap.size ≤ b)) := by
                    have hso : 0 < i3 → Sound us := fun h0 => dec_okK HD.out (by intro h; have := HM.out; rw [h] at this; simp at this; omega)
                    have kx : ∀ {b e n v xs}, w9.ownsRow b e 1 v n xs → e ≠ 4 → e ≠ 48 → wr.ownsRow b e 1 v n xs := fun {b e n v xs} h h4 h48 => by
                      have h1 := own_keep0 h HXe.out
                      have h2 := own_keep h1 HEp.out (own_apart h1 HPe.out (fun e => h4 e.symm))
                      exact own_keep h2 HDd.out.ext (own_apart h2 HXr.out (fun e => h48 e.symm))
                    have hbz : Bz wr us GX GY i3 w8.heap.size := by
                      refine ⟨fun j hj => ⟨_, kx (HCx9.out.fs j (by rw [HM.out]; exact hj)) (by decide) (by decide)⟩, fun j hj => ⟨_, kx (HCy.out.fs j (by rw [HM.out]; exact hj)) (by decide) (by decide)⟩, ?_, ?_, fun j hj g hg => (HXfl.out j (by rw [HM.out]; exact hj) g hg).2, fun j hj g hg => (own_lt (HCy.out.fs j (by rw [HM.out]; exact hj)) g hg).1, fun j hj => ((hso (by omega)).small (by rw [HM.out]; exact hj)).1.f0⟩
                      · have := HAx.out; rw [HM.out] at this; exact this
                      · have := HAy.out; rw [HM.out] at this; exact this
                    have hoO := kx HO49.out (by decide) (by decide)
                    have hmO := kx HO59.out (by decide) (by decide)
                    have hOl2 := HOl.out
                    rw [HeL.out] at hoO hmO hOl2
                    have hdis : ∀ g, (Value.slice oa eL oc).ownBlock = some g → (Value.slice ma eL mc).ownBlock ≠ some g := fun g hg h => by
                      have h1 := hOl2 g hg
                      have h2 := (own_lt hmO g h).1
                      omega
                    obtain ⟨hi, hIk, hih⟩ : ∃ hi, Bk 3 wr hi (2 * i3) (itI us GX GY) ∧ (ia = some ⟨hi, 0, none⟩ ∨ 2 * i3 = 0) := by
                      by_cases h0 : i3 = 0
                      · refine ⟨0, ?_, .inr (by omega)⟩
                        rw [h0]
                        exact bk_nil wr 0 _
                      · obtain ⟨hi, c2, hv, _⟩ := own_some HDd.out.ints (by omega)
                        simp only [Value.slice.injEq, true_and] at hv
                        obtain ⟨rfl, rfl⟩ := hv
                        exact ⟨hi, bk_ints hbz HDd.out.ints, .inl rfl⟩
                    have hrow : ∀ b, b ∈ blks (2 * i3) (itI us GX GY) → ∃ cur, wr.heap[b]? = some (.cells cur 3 (0, 0)) := fun b hb => by
                      obtain ⟨i, l, c, hlt, hit⟩ := mem_blks.1 hb
                      obtain ⟨⟨xs, _, ⟨cur, hc, _⟩, _⟩, _⟩ := hIk.mine i b l c hlt hit
                      exact ⟨cur, hc⟩
                    have hBk0 := bk_bytes HDd.out.bts hoO hmO (by rw [← HeL.out]; omega) hdis
                    have hrow2 : ∀ b, b ∈ blks 2 (itB (.slice oa eL oc) (.slice ma eL mc)) → ∃ cur, wr.heap[b]? = some (.cells cur 5 (0, 0)) := fun b hb => by
                      obtain ⟨i, l, c, hlt, hit⟩ := mem_blks.1 hb
                      obtain ⟨⟨xs, _, ⟨cur, hc, _⟩, _⟩, _⟩ := hBk0.mine i b l c hlt hit
                      exact ⟨cur, hc⟩
                    refine ⟨hi, itI us GX GY, itB (.slice oa eL oc) (.slice ma eL mc), hih, hIk, fun w' hx => ?_, fun h => ?_, fun h => ?_, fun b hb => ?_⟩
                    · refine bk_bytes (hx.keep HDd.out.bts (fun h => ?_)) (own_keep hoO hx (fun b hb => ?_)) (own_keep hmO hx (fun b hb => ?_)) (by rw [← HeL.out]; omega) hdis
                      · obtain ⟨cur, hc⟩ := hrow _ h
                        rw [HDd.out.bts] at hc
                        simp at hc
                      · obtain ⟨cur, hc⟩ := hrow _ hb
                        exact own_ne hoO hc (by decide)
                      · obtain ⟨cur, hc⟩ := hrow _ hb
                        exact own_ne hmO hc (by decide)
                    · obtain ⟨cur, hc⟩ := hrow _ h
                      rw [HDd.out.book] at hc
                      simp at hc
                    · obtain ⟨cur, hc⟩ := hrow2 _ h
                      rw [HDd.out.book] at hc
                      simp at hc
                    · have hs3 : w.heap.size ≤ w3.heap.size := (HE.out.trans HX3.out).size
                      have hs4 : w.heap.size ≤ w4.heap.size := (HE.out.trans HX4.out).size
                      have hs7 : w.heap.size ≤ w7.heap.size := (HE.out.trans HX7.out).size
                      have hs8 : w.heap.size ≤ w8.heap.size := (HE.out.trans HX8.out).size
                      rcases List.mem_append.1 hb with hb | hb
                      · obtain ⟨i, l, c, hlt, hit⟩ := mem_blks.1 hb
                        have hq := toIt_block hit
                        split at hq
                        · have := (HXfl.out (i / 2) (by rw [HM.out]; omega) b hq).1; omega
                        · have := (own_lt (HCy.out.fs (i / 2) (by rw [HM.out]; omega)) b hq).1; omega
                      · obtain ⟨i, l, c, hlt, hit⟩ := mem_blks.1 hb
                        have hq := toIt_block hit
                        split at hq
                        · have := (hOl2 b hq).1; omega
                        · have := (own_lt hmO b hq).1; omega
                  obtain ⟨hi, I, B, hih, hIk, hBk, hk1, hk2, hge⟩ := HZ.out
                  have hm64 : i3 ≤ 64 := by
                    by_cases h0 : i3 = 0
                    · omega
                    · have := (dec_okK HD.out (by intro h; have := HM.out; rw [h] at this; simp at this; omega)).1
                      rw [HM.out] at this
                      exact this
                  have b0 : wr.cell? ⟨wf.heap.size + 1, 0, none⟩ = some (.slice ia (2 * i3) ci) := by rw [cell_of_row _ _ _ _ _ _ HDd.out.book]; rfl
                  have b1 : wr.cell? ⟨wf.heap.size + 1, 1, none⟩ = some (.slice none 0 0) := by rw [cell_of_row _ _ _ _ _ _ HDd.out.book]; rfl
                  have b2 : wr.cell? ⟨wf.heap.size + 1, 2, none⟩ = some (.slice (some ⟨wf.heap.size, 0, none⟩) 2 2) := by rw [cell_of_row _ _ _ _ _ _ HDd.out.book]; rfl
                  have b3 : wr.cell? ⟨wf.heap.size + 1, 3, none⟩ = some (.slice none 0 0) := by rw [cell_of_row _ _ _ _ _ _ HDd.out.book]; rfl
                  have K := apart_any (wf.heap.size + 1) ia hi (2 * i3) ci I wf.heap.size B wr (by omega) hih hIk hBk b0 b1 b2 b3 hk1 hk2
                  have HGe := hid hge
                  have HEw : Hid (Ext [] w wr) := by
                    have e1 : Ext [] w we := HE.out.trans (HX9.out.trans HXe.out)
                    have e2 : Ext [] w wf := e1.on HEp.out (fun x hx => by
                      have := (HPl.out x (by simpa using hx)).1
                      have := (HE.out.trans HX5.out).size
                      omega)
                    exact e2.on HDd.out.ext (fun x hx => by
                      have := (HXl2.out x (by simpa using hx)).1
                      have := (HE.out.trans HX7.out).size
                      omega)
                  have HCk : Hid (chk ts = 0 ∨ eL = 0) := by
                    show _ ∨ _
                    by_cases hs : Sound ts
                    · exact .inl (chk_yes hs)
                    · right
                      rw [← HeL.out, encR_no hs]; rfl
                  clear hih hIk hBk hk1 hk2 hge b0 b1 b2 b3
                  generalize chk ts = ck at *
                  have hmm : ¬ ((i3 : Int) < i3) := by omega
                  go_wp2_with fail
                  refine K.mono ?_
                  clear K
                  rintro e wy ⟨rfl, hEy⟩
                  have HEy := hid (HEw.out.on hEy HGe.out)
                  clear hEy
                  by_cases hc0 : ck = 0
                  · have hb1 : (ck == 0) = true := by simp [hc0]
                    have H0 := hid hc0
                    clear hc0
                    go_wp2_with fail
                    go_ret
                    exact ⟨rfl, HEy.out⟩
                  · have he0 : eL = 0 := HCk.out.resolve_left hc0
                    have hb1 : (ck == 0) = false := by simp [hc0]
                    have hb2 : ((eL : Int) == 0) = true := by simp [he0]
                    have H0 := hid he0
                    clear hc0 he0
                    go_wp2_with fail
                    go_ret
                    exact ⟨rfl, HEy.out⟩

end Go.Proofs.YtfjbhpjgidgjaaaDoor

namespace Go.Proofs.YtfjbhpjgidgjaaaDoor.typesKeeps
open Go.ChangeShapes Go.WideShapes Go.ChangeAt Go.RowKit

set_option maxRecDepth 100000 in
theorem lifted (os : Go.Os) (started : os.Started) (H : Type) (enc : TypeId × Value → H) :
    ReturnsInHanded {} Tryd.checked os 8 .any (fun w args => (Rows.typesKeepsSpec.pre enc Tryd.prog Tryd.f8 [] false w args ∧ laidMetH Tryd.prog [("heddle/types.partsOf", Rows.laid_heddle_types_partsOf)] w) ∧ sizedMet enc Tryd.prog Tryd.f8 (OpenSpec.ofChange Rows.typesKeepsSpec) false w args)
      (Rows.typesKeepsSpec.post enc Tryd.prog Tryd.f8 false true false false) := by
  refine returnsInHanded_of_change_and (C := Tryd.checked) (X := fun w _ => laidMetH Tryd.prog [("heddle/types.partsOf", Rows.laid_heddle_types_partsOf)] w) (fun _ _ _ hh h => h.of_heap hh) own started (by kernel_rfl) Tryd.func8
    (ChangeSpec.witness_shaped (enc := enc) (C := Tryd.checked) (os := os) (X := fun w _ => laidMetH Tryd.prog [("heddle/types.partsOf", Rows.laid_heddle_types_partsOf)] w) false (World.laidAll Tryd.prog os [("heddle/types.partsOf", Rows.laid_heddle_types_partsOf)]) #[.slice none 0 0, .slice none 0 0, .int .i64 0] 8 (World.laidAll_os _ _ _)
      (World.shaped_of_ZipB (by kernel_rfl) (by kernel_rfl)) (by kernel_rfl) (by kernel_rfl) (by kernel_rfl)
      (by rw [MakeChecks.laidMetH_plain _ _ _ (by kernel_rfl)]; exact laidMet_laidAll _ (by kernel_rfl) (by kernel_rfl))) ?_
  intro W base args ds gs before hval0 hW _ hsz0 hL _
  have hval : ∀ (j : Nat) t v, Tryd.f8.params[j]? = some t → args[j]? = some v → Value.okWide Tryd.prog W .any base t v := hval0
  have hW' := hW
  obtain ⟨p, q, hA0, hV, rfl, hfz, hnd⟩ := hW
  have hA : DataW.TrodAll enc Tryd.prog W 0 (fun _ => true) true Tryd.f8.params.toList args.toList ds p := hA0
  rw [Tryd.params8] at hA hval
  obtain ⟨v0, vs0, d0, ds0, p0, q0, hargs, rfl, rfl, h0, r0⟩ := trodAll_cons hA
  obtain ⟨v1, vs1, d1, ds1, p1, q1, rfl, rfl, rfl, h1, r1⟩ := trodAll_cons r0
  obtain ⟨v2, vs2, d2, ds2, p2, q2, rfl, rfl, rfl, h2, r2⟩ := trodAll_cons r1
  obtain ⟨rfl, rfl, rfl⟩ := trodAll_nil r2
  obtain rfl : args = #[v0, v1, v2] := by cases args; simp_all
  obtain ⟨rfl, rfl⟩ := trodVars_none hV
  obtain ⟨a0, len0, cap0, rfl⟩ := okWide_slice Tryd.underlying22 (hval 0 22 v0 rfl rfl)
  obtain ⟨a1, len1, cap1, rfl⟩ := okWide_slice Tryd.underlying36 (hval 1 36 v1 rfl rfl)
  obtain ⟨a2, rfl, rfl, rfl, w2⟩ := open_int Tryd.underlying3 (hval 2 3 v2 rfl rfl) h2
  have k0 := h0
  have lt0 : ∀ x ∈ p0, x.block < W.heap.size := by obtain ⟨m, hm⟩ := k0; exact DataW.trod_lt m _ _ _ hm
  have k1 := h1
  have lt1 : ∀ x ∈ p1, x.block < W.heap.size := by obtain ⟨m, hm⟩ := k1; exact DataW.trod_lt m _ _ _ hm
  have hsz : (DataW.weightsEach Tryd.prog [22, 36, 3] [d0, d1, _]).all (· ≤ reachBytes) = true := hsz0
  have hwd : ∀ y ∈ d0.weights Tryd.prog 22, y ≤ 140737488351232 := by
    intro y hy
    have := List.all_eq_true.1 hsz y (DataW.weights_mem_each (j := 0) (t := 22) rfl rfl y hy)
    have h2 := of_decide_eq_true this
    simpa [reachBytes] using h2
  have hwd1 : ∀ y ∈ d1.weights Tryd.prog 36, y ≤ 140737488351232 := by
    intro y hy
    have := List.all_eq_true.1 hsz y (DataW.weights_mem_each (j := 1) (t := 36) rfl rfl y hy)
    have h2 := of_decide_eq_true this
    simpa [reachBytes] using h2
  obtain ⟨fuel, hf⟩ := h0
  obtain ⟨ts, hT, hn, hfb⟩ := open_tableK (n := len0) (c := cap0) hf hwd
  obtain ⟨fuel1, hf1⟩ := h1
  obtain ⟨L, hI, _⟩ := open_bytes (n := len1) (c := cap1) hf1 hwd1
  clear hA0 hval0
  refine (keepsOf a0 ts len0 cap0 a1 L len1 cap1 a2 W hT hn hfb hI (gl_of hL)).mono fun e W' ⟨he, hext⟩ => ?_
  subst he
  have bel := hext.below
  exact ⟨_, rfl, _, _, _, [], _, [], hW', trodAll_mk1 (shut_bool Tryd.underlying4 _), (trodAll_cons_mk (Below.trod laidOut (by kernel_rfl) (of_decide_eq_true (by kernel_rfl)) k0 bel lt0) (trodAll_cons_mk (Below.trod laidOut (by kernel_rfl) (of_decide_eq_true (by kernel_rfl)) k1 bel lt1) (trodAll_cons_mk (shut_int Tryd.underlying3 w2) trodAll_mk0))), rfl, bel.frame _, fun h => by cases h⟩

theorem over : Rows.typesKeepsRow.holds Tryd.pinned (OpenSpec.ofChange Rows.typesKeepsSpec) :=
  OpenClaim.holds_of_wide 8 Tryd.f8 rfl rfl rfl rfl rfl rfl rfl ⟨rfl, rfl, rfl, rfl, rfl⟩ rfl rfl rfl rfl rfl (by kernel_rfl) Tryd.func8 (by kernel_rfl)
    (of_decide_eq_true (by kernel_rfl)) (by unfold Func.isWrapper; first | (rw [if_pos (by decide +kernel)]; kernel_rfl) | (rw [if_neg (by decide +kernel)]; exact ⟨rfl, rfl⟩))
    (fun os started H enc _ => lifted os started H enc)

theorem card : Rows.TypesKeepsCardSaid :=
  Claim7.holds_tied_plain_at .later [] [.data] true (true, "dccc4470837eee4712a4c475a00d14631d066eb7b5e192dd9888e39c476ec522") false over (fun _ h => by cases h) (by kernel_rfl) (fun _ h => by cases h) typesKeeps_row_tie rfl ⟨rfl, rfl⟩ (by kernel_rfl) rfl
    (fun f fn hf hfn => by
      obtain rfl : f = 8 := Option.some.inj ((show Tryd.prog.funcNamed "heddle/heddlelaw02.TypesKeeps" = some 8 by kernel_rfl).symm.trans hf) |>.symm
      obtain rfl : fn = Tryd.f8 := (Option.some.inj (Tryd.func8.symm.trans hfn)).symm
      exact ⟨by kernel_rfl, fun j t ht => by
        rw [Tryd.params8] at ht
        have hm : t ∈ [22, 36, 3] := by simpa using Array.mem_of_getElem? ht
        have hall : ([22, 36, 3].all fun u => !Tryd.prog.wantsStandIn u) = true := by kernel_rfl
        exact (show Tryd.prog.wantsStandIn t = false by simpa using List.all_eq_true.1 hall t hm)⟩)
    (by kernel_rfl)

end Go.Proofs.YtfjbhpjgidgjaaaDoor.typesKeeps

namespace Go.Proofs.YtfjbhpjgidgjaaaDoor
theorem typesKeeps_holds : Rows.TypesKeepsCardSaid := typesKeeps.card
#print axioms typesKeeps_holds
end Go.Proofs.YtfjbhpjgidgjaaaDoor
