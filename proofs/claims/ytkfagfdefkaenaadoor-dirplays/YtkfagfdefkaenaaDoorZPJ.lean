/-
  RhA, RhB: joined by program; no statement is proved here.
-/
import Derived.Test.YtkfagfdefkaenaaDoorZPA
import Derived.Test.YtkfagfdefkaenaaDoorZM
import Derived.Test.YtkfagfdefkaenaaDoorZPE
/-
  The document's directory as it lies in memory, and the table of a hash; no statement is proved here.
-/
namespace Go.Proofs.YtkfagfdefkaenaaDoor.Rf
open Go.RowKit Go.Shelf
open Pr (Gp GpI)
attribute [local go_sem] Oper.semAt_some run_store_func

set_option maxRecDepth 100000 in
theorem lead_any (h d : Nat) (hh : h < 18446744073709551616) (hd : d ≤ 64) (w : World) : Calls Tryd.prog 75 #[.int .u64 (h : Nat), .int .i64 (d : Nat)] w fun e w' => e = .returned (.int .u64 (ld h d : Nat)) ∧ w' = w := by
  have HN := hid (fun i (hi : i < d) => (ld_next (h := h) (k := i) (by omega)))
  have HD := hid (fun i (hi : i < d) => show ld h (i + 1) = h / 2 ^ (63 - i) from by unfold ld; rw [show 64 - (i + 1) = 63 - i by omega])
  have HL := hid (fun i (hi : i ≤ d) => (ld_lt (h := h) (dp := i) hh (by omega)))
  have H0 := hid (show ld h 0 = 0 from by unfold ld; exact Nat.div_eq_of_lt (by omega))
  go_enter Tryd.func75, Tryd.ntmps75
  go_wp2_with fail
  go_loop [5, 6] (fun n u => ∃ i : Nat, u = .int .i64 i ∧ i ≤ d ∧ n = .int .u64 (ld h i : Nat)) (fun _ u => (d - (intOf u)).toNat)
  case atStart => exact ⟨0, rfl, by omega, by rw [H0.out]; rfl⟩
  case round =>
    obtain ⟨i, rfl, hi, rfl⟩ := hrel
    by_cases hid' : i < d
    · have e1 := HN.out i hid'
      have e2 := HD.out i hid'
      have l1 := HL.out (i + 1) (by omega)
      have h63 : (63 : Int) - (i : Int) = ((63 - i : Nat) : Int) := by omega
      have h2i : (2 : Nat) ^ (i + 1) ≤ 2 ^ 64 := Nat.pow_le_pow_right (by omega) (by omega)
      have hlt : ld h (i + 1) < 18446744073709551616 := Nat.lt_of_lt_of_le l1 h2i
      obtain ⟨q, hq⟩ : ∃ q, h / 2 ^ (63 - i) = q := ⟨_, rfl⟩
      have HE := hid (show ld h (i + 1) = 2 * ld h i + q % 2 from by rw [← hq, ← e2]; exact e1)
      have hlt2 : 2 * ld h i + q % 2 < 18446744073709551616 := by rw [← HE.out]; exact hlt
      have hqi : (h : Int) / 2 ^ (63 - i) = (q : Int) := by rw [← hq]; norm_cast
      generalize ld h i = a at *
      clear e1 e2 l1 h2i hlt HN HD HL
      go_wp2_with fail
      go_round
      case rel => exact ⟨i + 1, by go_num, by omega, by rw [HE.out]; simp⟩
      case measure => simp [intOf]; omega
    · obtain rfl : i = d := by omega
      clear HN HD HL
      go_wp2
      go_ret
      exact ⟨rfl, rfl⟩
/-- Where a table of the document's directory lies. -/
structure Rc where
  pt : Nat
  p : Nat
  q : Nat
  c : Nat
/-- The leading bits of table number k. -/
def lea (dp : Nat) (L : List Tq) (k : Nat) (t : Tq) : Nat := pre dp (L.take k) / wdt dp t
/-- The document's directory in memory. -/
structure Rd (w : World) (pd qd cd dp : Nat) (L : List Tq) (R : List Rc) : Prop where
  blk : w.heap[pd]? = some (.cells #[.int .i64 (dp : Nat), .slice (some ⟨qd, 0, none⟩) L.length cd] 83 (0, 0))
  len : R.length = L.length
  row : ∃ cs, w.heap[qd]? = some (.cells cs 78 (0, 0)) ∧ ∀ (k : Nat) (r : Rc), R[k]? = some r → cs[k]? = some (.pointer (some ⟨r.pt, 0, none⟩))
  tab : ∀ (k : Nat) (r : Rc) (t : Tq), R[k]? = some r → L[k]? = some t → w.heap[r.pt]? = some (.cells #[.int .i64 (t.d : Nat), .int .u64 (lea dp L k t : Nat), .pointer (some ⟨r.p, 0, none⟩)] 80 (0, 0)) ∧ Rt w r.p r.q r.c t.G t.T
  dis : ∀ (i j : Nat) (r s : Rc), R[i]? = some r → R[j]? = some s → i ≠ j → r.pt ≠ s.pt ∧ r.p ≠ s.p ∧ r.q ≠ s.q
  cap : L.length ≤ cd
theorem Rd.keep0 {w w' : World} {pd qd cd dp : Nat} {L : List Tq} {R : List Rc} (h : Rd w pd qd cd dp L R) (x : Ext [] w w') : Rd w' pd qd cd dp L R := by
  obtain ⟨cs, h1, h2⟩ := h.row
  exact ⟨x.keep h.blk (by simp), h.len, ⟨cs, x.keep h1 (by simp), h2⟩, fun k r t hr ht => ⟨x.keep (h.tab k r t hr ht).1 (by simp), (h.tab k r t hr ht).2.keep0 x⟩, h.dis, h.cap⟩
set_option maxRecDepth 100000 in
set_option maxHeartbeats 4000000 in
theorem rtab_any (pd qd cd dp h : Nat) (L A B : List Tq) (t : Tq) (R : List Rc) (hD : Dq dp L) (hh : h < 18446744073709551616) (hT : TabOf dp L A t B h) (w : World) (hR : Rd w pd qd cd dp L R) :
    Calls Tryd.prog 40 #[.pointer (some ⟨pd, 0, none⟩), .int .u64 (h : Nat)] w (SayPost w (.int .i64 (A.length : Nat))) := by
  have hdp := hD.le
  have hn64 := hD.len
  obtain ⟨n, hn⟩ : ∃ n, L.length = n := ⟨_, rfl⟩
  have hAn : A.length < n := by rw [← hn, hT.eq, List.length_append, List.length_cons]; omega
  obtain ⟨a, ha⟩ : ∃ a, A.length = a := ⟨_, rfl⟩
  rw [ha] at hAn ⊢
  rw [hn] at hn64
  have f1 : w.cell? ⟨pd, 1, none⟩ = some (.slice (some ⟨qd, 0, none⟩) n cd) := by rw [cell_of_row _ _ _ _ _ _ hR.blk, hn]; rfl
  obtain ⟨cs, hcs, hcs2⟩ := hR.row
  have HK := hid (fun k (hk : k < n) => show ∃ r u, w.cell? ⟨qd, k, none⟩ = some (.pointer (some ⟨r, 0, none⟩)) ∧ w.cell? ⟨r, 0, none⟩ = some (.int .i64 ((u : Tq).d : Nat)) ∧ w.cell? ⟨r, 1, none⟩ = some (.int .u64 (lea dp L k u : Nat)) ∧ L[k]? = some u ∧ u.d ≤ dp ∧ lea dp L k u < 18446744073709551616 from by
    obtain ⟨u, hu⟩ : ∃ u, L[k]? = some u := ⟨_, List.getElem?_eq_getElem (by rw [hn]; exact hk)⟩
    obtain ⟨r, hr⟩ : ∃ r, R[k]? = some r := ⟨_, List.getElem?_eq_getElem (by rw [hR.len, hn]; exact hk)⟩
    obtain ⟨b1, _⟩ := hR.tab k r u hr hu
    refine ⟨r.pt, u, by rw [cell_of_row _ _ _ _ _ _ hcs]; exact hcs2 k r hr, by rw [cell_of_row _ _ _ _ _ _ b1]; rfl, by rw [cell_of_row _ _ _ _ _ _ b1]; rfl, hu, hD.d_le k u hu, ?_⟩
    have h1 : pre dp (L.take k) ≤ pre dp L := by
      have := pre_app dp (L.take k) (L.drop k)
      rw [List.take_append_drop] at this
      omega
    rw [hD.all] at h1
    have h2 : (2 : Nat) ^ dp ≤ 2 ^ 6 := Nat.pow_le_pow_right (by omega) hdp
    exact Nat.lt_of_le_of_lt (Nat.div_le_self _ _) (by omega))
  have HEq := hid (fun k u (hu : L[k]? = some u) => show ld h u.d = lea dp L k u ↔ k = a from by
    have hsp : L = L.take k ++ u :: L.drop (k + 1) := by
      have := List.take_append_drop k L
      rw [List.drop_eq_getElem_cons (List.getElem?_eq_some_iff.1 hu).1, (List.getElem?_eq_some_iff.1 hu).2] at this
      exact this.symm
    constructor
    · intro e
      have ho := (ok_app dp (L.take k) (u :: L.drop (k + 1)) 0).1 (by rw [← hsp]; exact hD.ok)
      have ho2 := ho.2.1
      rw [Nat.zero_add] at ho2
      obtain ⟨e1, _, _⟩ := tab_uniq (by omega) (hT.eq.symm.trans hsp) hT.ot.le hT.ot.mul hT.lead ho2.le ho2.mul e
      rw [← ha, e1, List.length_take]
      have := (List.getElem?_eq_some_iff.1 hu).1
      omega
    · rintro rfl
      have hu2 := hu
      rw [hT.eq, ← ha] at hu2
      simp at hu2
      subst hu2
      unfold lea
      rw [hT.eq, ← ha]
      simpa using hT.lead)
  have KL := fun d (hd : d ≤ 64) u => lead_any h d hh hd u
  clear hD hR hT hcs hcs2
  go_enter Tryd.func40, Tryd.ntmps40
  go_wp2_with fail
  go_loopw [5] (fun u wr => ∃ k : Nat, u = .int .i64 k ∧ k ≤ a ∧ Ext [] w wr) (fun u _ => (a + 1 - (intOf u)).toNat)
  case atStart => exact ⟨0, rfl, by omega, Ext.refl _ _⟩
  case round =>
    obtain ⟨k, rfl, hk, hX⟩ := hrel
    obtain ⟨r, u, k0, k1, k2, hu, hud, hl64⟩ := HK.out k (by omega)
    have hkn : (k : Int) < n := by omega
    have hk4 : (0 : Int) ≤ (k : Int) := by omega
    have HE := hid (HEq.out k u hu)
    have K1 := KL u.d (by omega)
    have f1r := hX.cell f1 (by simp)
    have s1 : (wr.drew).cell? ⟨pd, 1, none⟩ = some (.slice (some ⟨qd, 0, none⟩) n cd) := f1r
    have s2 : (wr.drew).cell? ⟨qd, k, none⟩ = some (.pointer (some ⟨r, 0, none⟩)) := hX.cell k0 (by simp)
    have s3 : (wr.drew).cell? ⟨r, 0, none⟩ = some (.int .i64 (u.d : Nat)) := hX.cell k1 (by simp)
    have s4 : (wr.drew).cell? ⟨r, 1, none⟩ = some (.int .u64 (lea dp L k u : Nat)) := hX.cell k2 (by simp)
    have HX := hid (hX.trans (Ext.drew [] wr))
    generalize ld h u.d = x at *
    generalize lea dp L k u = y at *
    generalize u.d = ud at *
    clear HK HEq KL hu hX k0 k1 k2
    by_cases hka : k = a
    · have hxy : ((x : Int) == (y : Int)) = true := by have := HE.out.2 hka; simp [this]
      subst hka
      clear HE
      go_wp2_with fail
      go_region_held3 (fun w' => w'.cell? ⟨pd, 1, none⟩ = some (.slice (some ⟨qd, 0, none⟩) n cd) ∧ w'.cell? ⟨qd, k, none⟩ = some (.pointer (some ⟨r, 0, none⟩)) ∧ w'.cell? ⟨r, 0, none⟩ = some (.int .i64 (ud : Nat)) ∧ w'.cell? ⟨r, 1, none⟩ = some (.int .u64 (y : Nat)))
        (first | exact ⟨s1, s2, s3, s4⟩ | go_keep)
        (first | (go_at_call 75; refine (K1 _).mono ?_; rintro _ _ ⟨rfl, rfl⟩) | fail "no arm")
      clear s1 s2 s3 s4 K1 f1r
      go_wp2_with fail
      go_ret
      exact ⟨rfl, HX.out⟩
    · have hxy : ((x : Int) == (y : Int)) = false := by
        have : x ≠ y := fun e => hka (HE.out.1 e)
        simp; omega
      clear HE
      go_wp2_with fail
      go_region_held3 (fun w' => w'.cell? ⟨pd, 1, none⟩ = some (.slice (some ⟨qd, 0, none⟩) n cd) ∧ w'.cell? ⟨qd, k, none⟩ = some (.pointer (some ⟨r, 0, none⟩)) ∧ w'.cell? ⟨r, 0, none⟩ = some (.int .i64 (ud : Nat)) ∧ w'.cell? ⟨r, 1, none⟩ = some (.int .u64 (y : Nat)))
        (first | exact ⟨s1, s2, s3, s4⟩ | go_keep)
        (first | (go_at_call 75; refine (K1 _).mono ?_; rintro _ _ ⟨rfl, rfl⟩) | fail "no arm")
      clear s1 s2 s3 s4 K1 f1r
      go_wp2_with fail
      go_roundw
      case rel => exact ⟨k + 1, by go_num, by omega, HX.out⟩
      case measure => simp [intOf]; omega
end Go.Proofs.YtkfagfdefkaenaaDoor.Rf

/-
  The document's directory while one of its tables changes, and its Delete; no statement is proved here.
-/
namespace Go.Proofs.YtkfagfdefkaenaaDoor.Rf
open Go.RowKit Go.Shelf
open Pr (Gp GpI)
attribute [local go_sem] Oper.semAt_some run_store_func

theorem pre_rep (dp : Nat) {t t' : Tq} (e : t'.d = t.d) : ∀ (A B : List Tq) (k : Nat), pre dp ((A ++ t' :: B).take k) = pre dp ((A ++ t :: B).take k)
  | [], B, 0 => rfl
  | [], B, k + 1 => by
    show wdt dp t' + pre dp (B.take k) = wdt dp t + pre dp (B.take k)
    unfold wdt
    rw [e]
  | a :: A, B, 0 => rfl
  | a :: A, B, k + 1 => by
    show wdt dp a + pre dp ((A ++ t' :: B).take k) = wdt dp a + pre dp ((A ++ t :: B).take k)
    rw [pre_rep dp e A B k]
theorem at_rep {A B : List Tq} {t t' u : Tq} {k : Nat} (h : (A ++ t' :: B)[k]? = some u) : (k = A.length ∧ u = t') ∨ (k ≠ A.length ∧ (A ++ t :: B)[k]? = some u) := by
  rcases Nat.lt_trichotomy k A.length with q | q | q
  · rw [List.getElem?_append_left q] at h ⊢
    exact .inr ⟨by omega, h⟩
  · subst q
    simp at h
    exact .inl ⟨rfl, h.symm⟩
  · rw [List.getElem?_append_right (by omega)] at h ⊢
    obtain ⟨j, hj⟩ : ∃ j, k - A.length = j + 1 := ⟨k - A.length - 1, by omega⟩
    rw [hj] at h ⊢
    exact .inr ⟨by omega, by simpa using h⟩
/-- The places from lo on. -/
def Low (lo pd qd : Nat) (R : List Rc) : Prop := lo ≤ pd ∧ lo ≤ qd ∧ ∀ r ∈ R, lo ≤ r.pt ∧ lo ≤ r.p ∧ lo ≤ r.q
/-- One table's slots have changed. -/
theorem Rd.upd {w w' : World} {pd qd cd dp : Nat} {A B : List Tq} {t : Tq} {T' : List Nat} {R : List Rc} {r : Rc} (h : Rd w pd qd cd dp (A ++ t :: B) R) (hr : R[A.length]? = some r) (x : Ext [r.q] w w') (hR' : Rt w' r.p r.q r.c t.G T') :
    Rd w' pd qd cd dp (A ++ ⟨t.d, t.G, T'⟩ :: B) R := by
  obtain ⟨cs, h1, h2⟩ := h.row
  have hq := (h.tab A.length r t hr (by simp)).2
  obtain ⟨ds, hds, _⟩ := hq.row
  have n1 : pd ≠ r.q := by
    intro e
    have := h.blk
    rw [e, hds] at this
    simp at this
  have n2 : qd ≠ r.q := by
    intro e
    rw [e, hds] at h1
    simp at h1
  refine ⟨?_, ?_, ⟨cs, x.keep h1 (by simpa using n2), h2⟩, fun k s u hs hu => ?_, h.dis, by have := h.cap; simpa using this⟩
  · have := x.keep h.blk (by simpa using n1)
    simpa using this
  · have := h.len
    simpa using this
  · rcases at_rep (t := t) hu with ⟨rfl, rfl⟩ | ⟨hk, hu2⟩
    · obtain rfl : r = s := by rw [hr] at hs; exact Option.some.inj hs
      obtain ⟨b1, _⟩ := h.tab A.length r t hr (by simp)
      have n3 : r.pt ≠ r.q := by
        intro e
        rw [e, hds] at b1
        simp at b1
      refine ⟨?_, hR'⟩
      have := x.keep b1 (by simpa using n3)
      unfold lea at this ⊢
      rw [pre_rep dp (t := t) (t' := ⟨t.d, t.G, T'⟩) rfl A B]
      exact this
    · obtain ⟨b1, b2⟩ := h.tab k s u hs hu2
      have n3 : s.pt ≠ r.q := by
        intro e
        rw [e, hds] at b1
        simp at b1
      have n4 : s.p ≠ r.q := by
        intro e
        have := b2.blk
        rw [e, hds] at this
        simp at this
      have n5 := (h.dis k A.length s r hs hr hk).2.2
      refine ⟨?_, b2.keep x (by simpa using n4) (by simpa using n5)⟩
      have := x.keep b1 (by simpa using n3)
      unfold lea at this ⊢
      rw [pre_rep dp (t := t) (t' := ⟨t.d, t.G, T'⟩) rfl A B]
      exact this
/-- What Delete makes of a directory. -/
def DelD (h d dp : Nat) (L : List Tq) : Option (List Tq) → Prop
  | some L' => ∃ A t B T', TabOf dp L A t B h ∧ DelT t.T t.G h d (some T') ∧ L' = A ++ ⟨t.d, t.G, T'⟩ :: B
  | none => ∃ A t B, TabOf dp L A t B h ∧ DelT t.T t.G h d none
/-- What a call on one table leaves. -/
def One (P : Option (List Nat) → Prop) (r : Rc) (t : Tq) (bb : Bool) (w' : World) : Prop := (bb = true ∧ ∃ T', P (some T') ∧ Rt w' r.p r.q r.c t.G T') ∨ (bb = false ∧ P none ∧ Rt w' r.p r.q r.c t.G t.T)
theorem del_one {r : Rc} {t : Tq} {h d : Nat} {w' : World} {e : Ending} (hS : Sd t.T t.G) (hI : RDel t.T r.p r.q r.c t.G h d (wk t.T (Pr.sq (h / 128) t.G)) w' e) : ∃ bb, e = .returned (.bool bb) ∧ Hid (One (DelT t.T t.G h d) r t bb w') := by
  rcases del_agree hS hI with ⟨T', a, rfl, b⟩ | ⟨a, rfl, b⟩
  · exact ⟨_, rfl, .inl ⟨rfl, T', a, b⟩⟩
  · exact ⟨_, rfl, .inr ⟨rfl, a, b⟩⟩
theorem ins_one {r : Rc} {t : Tq} {h d : Nat} {w' : World} {e : Ending} (hS : Sd t.T t.G) (hh : h < 18446744073709551616) (hd : d < 18446744073709551616) (hI : RIns t.T r.p r.q r.c t.G h d w' e) : ∃ bb, e = .returned (.bool bb) ∧ Hid (One (InsT t.T t.G h d) r t bb w') := by
  rcases ins_agree hS hh hd hI with ⟨T', a, rfl, b⟩ | ⟨a, rfl, b⟩
  · exact ⟨_, rfl, .inl ⟨rfl, T', a, b⟩⟩
  · exact ⟨_, rfl, .inr ⟨rfl, a, b⟩⟩
/-- What the document's Delete leaves. -/
def RdPost (h d dp pd qd cd : Nat) (L : List Tq) (R : List Rc) (W0 : World) (e : Ending) (w' : World) : Prop := Ext [] W0 w' ∧
  ((∃ L', DelD h d dp L (some L') ∧ e = .returned (.bool true) ∧ Rd w' pd qd cd dp L' R) ∨ (DelD h d dp L none ∧ e = .returned (.bool false) ∧ Rd w' pd qd cd dp L R))
set_option maxRecDepth 100000 in
set_option maxHeartbeats 4000000 in
theorem rddel_any (pd qd cd dp h d : Nat) (L : List Tq) (R : List Rc) (hD : Dq dp L) (hh : h < 18446744073709551616) (W0 w : World) (hX : Ext [] W0 w) (hlo : Low W0.heap.size pd qd R) (hR : Rd w pd qd cd dp L R) :
    Calls Tryd.prog 16 #[.pointer (some ⟨pd, 0, none⟩), .int .u64 (h : Nat), .int .u64 (d : Nat)] w (RdPost h d dp pd qd cd L R W0) := by
  obtain ⟨A, t, B, hT⟩ := tab_of hD hh
  have KT := fun u (hu : Rd u pd qd cd dp L R) => rtab_any pd qd cd dp h L A B t R hD hh hT u hu
  obtain rfl := hT.eq
  obtain ⟨r, hr⟩ : ∃ r, R[A.length]? = some r := ⟨_, List.getElem?_eq_getElem (by rw [hR.len]; simp)⟩
  obtain ⟨b1, hRt⟩ := hR.tab A.length r t hr (by simp)
  obtain ⟨cs, hcs, hcs2⟩ := hR.row
  have f1 : w.cell? ⟨pd, 1, none⟩ = some (.slice (some ⟨qd, 0, none⟩) (A ++ t :: B).length cd) := by rw [cell_of_row _ _ _ _ _ _ hR.blk]; rfl
  have f2 : w.cell? ⟨qd, A.length, none⟩ = some (.pointer (some ⟨r.pt, 0, none⟩)) := by rw [cell_of_row _ _ _ _ _ _ hcs]; exact hcs2 _ r hr
  have f3 : w.cell? ⟨r.pt, 2, none⟩ = some (.pointer (some ⟨r.p, 0, none⟩)) := by rw [cell_of_row _ _ _ _ _ _ b1]; rfl
  have hsd := hT.ot.sd
  have KT' := KT w.drew (hR.keep0 (Ext.drew [] w))
  obtain ⟨ds, hds, _⟩ := hRt.row
  have n1 : pd ∉ [r.q] := by
    intro e
    have := hR.blk
    rw [List.mem_singleton.1 e, hds] at this
    simp at this
  have n2 : qd ∉ [r.q] := by
    intro e
    rw [List.mem_singleton.1 e, hds] at hcs
    simp at hcs
  have n3 : r.pt ∉ [r.q] := by
    intro e
    rw [List.mem_singleton.1 e, hds] at b1
    simp at b1
  have KD := fun u (hu : Ext [] w u) => (rdel_any r.p r.q r.c t.G h d t.T u (hRt.keep0 hu) hsd.shp.gp hh).mono (R' := fun e w' => ∃ bb, e = .returned (.bool bb) ∧ Ext [r.q] u w' ∧ Hid (One (DelT t.T t.G h d) r t bb w')) (fun e w' hp => by obtain ⟨bb, a, b⟩ := del_one hsd hp.1; exact ⟨bb, a, hp.2, b⟩)
  have hlq := (hlo.2.2 r (List.mem_of_getElem? hr)).2.2
  obtain ⟨n, hn⟩ : ∃ n, (A ++ t :: B).length = n := ⟨_, rfl⟩
  have hn2 : A.length < n := by rw [← hn, List.length_append, List.length_cons]; omega
  have hn64 := hD.len
  rw [hn] at hn64 f1
  have HR := hid hR
  have HT := hid hT
  have HX := hid hX
  have Hr := hid hr
  obtain ⟨a, ha⟩ : ∃ a, A.length = a := ⟨_, rfl⟩
  rw [ha] at f2 KT' hn2
  have hai : (a : Int) < n := by omega
  have s1 : (w.drew).cell? ⟨pd, 1, none⟩ = some (.slice (some ⟨qd, 0, none⟩) n cd) := f1
  have s2 : (w.drew).cell? ⟨qd, a, none⟩ = some (.pointer (some ⟨r.pt, 0, none⟩)) := f2
  have s3 : (w.drew).cell? ⟨r.pt, 2, none⟩ = some (.pointer (some ⟨r.p, 0, none⟩)) := f3
  have hxd := Ext.drew [] w
  have hk4 : (0 : Int) ≤ (a : Int) := by omega
  clear hR hT hX hcs hcs2 hr b1 hRt hD KT hds f1 f2 f3
  go_enter Tryd.func16, Tryd.ntmps16
  go_wp2_with fail
  go_region_held3 (fun w' => w'.cell? ⟨pd, 1, none⟩ = some (.slice (some ⟨qd, 0, none⟩) n cd) ∧ w'.cell? ⟨qd, a, none⟩ = some (.pointer (some ⟨r.pt, 0, none⟩)) ∧ w'.cell? ⟨r.pt, 2, none⟩ = some (.pointer (some ⟨r.p, 0, none⟩)))
    (first | exact ⟨hE2.cell (hE1.cell s1 (by simp)) n1, hE2.cell (hE1.cell s2 (by simp)) n2, hE2.cell (hE1.cell s3 (by simp)) n3⟩ | exact ⟨hE1.cell s1 (by simp), hE1.cell s2 (by simp), hE1.cell s3 (by simp)⟩ | exact ⟨s1, s2, s3⟩ | go_keep)
    (first | (go_at_call 40; refine KT'.mono ?_; rintro _ u1 ⟨rfl, hE1⟩) | (go_at_call 41; refine (KD u1 (hxd.trans hE1)).mono ?_; rintro _ u2 ⟨bb, rfl, hE2, hO⟩) | fail "no arm")
  have hX2 := (HX.out.trans (hxd.trans hE1)).on hE2 (by simpa using hlq)
  have hEE : Ext [r.q] w u2 := ((hxd.trans hE1).mono (by simp)).trans hE2
  have HF : Hid (RdPost h d dp pd qd cd (A ++ t :: B) R W0 (.returned (.bool bb)) u2) := by
    rcases hO.out with ⟨rfl, T', hI, hRt'⟩ | ⟨rfl, hI, hRt'⟩
    · exact ⟨hX2, .inl ⟨_, ⟨A, t, B, T', HT.out, hI, rfl⟩, rfl, HR.out.upd Hr.out hEE hRt'⟩⟩
    · exact ⟨hX2, .inr ⟨⟨A, t, B, HT.out, hI⟩, rfl, HR.out.upd Hr.out hEE hRt'⟩⟩
  clear s1 s2 s3 hE1 hE2 hO hX2 hEE KT' KD n1 n2 n3 hxd
  go_wp2_with fail
  go_ret
  exact HF.out
end Go.Proofs.YtkfagfdefkaenaaDoor.Rf
