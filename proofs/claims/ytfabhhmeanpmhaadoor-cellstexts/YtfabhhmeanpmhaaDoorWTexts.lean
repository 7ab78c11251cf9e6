/-
  The walk through CellsTexts; no statement is proved here.
-/
import Derived.Test.YtfabhhmeanpmhaaDoorTxD
import Derived.Test.YtfabhhmeanpmhaaDoorWParts
import Derived.Deep.CutRange
namespace Go.Proofs.YtfabhhmeanpmhaaDoor
open Go.RowKit

theorem conv_any {w0 w : World} {v : Value} {L : List UInt8} (h : YO w0 w v L) (hL : 1 ≤ L.length) : (convert 56 9 v).run Tryd.prog w = .ok (.string ⟨L.toArray⟩) w := by
  have hcell := fun a c (e : v = .slice a L.length c) => own_vs (e ▸ h)
  rcases h.2 with ⟨_, h1⟩ | ⟨g, cap, cur, rfl, _, hg, _⟩
  · omega
  · refine run_convert_bytes_back (P := Tryd.prog) w 56 9 5 ⟨g, 0, none⟩ cap L Tryd.underlying56 und5 und9 (fun j hj => ?_)
    rcases hcell _ _ rfl with q | ⟨b, o, hb, hc⟩
    · have := congrArg List.length q
      rw [Lib.byteCells_length] at this
      rw [List.length_nil] at this; omega
    · cases hb
      have := hc j (by rw [Lib.byteCells_length]; exact hj)
      rw [Addr.add_lit, this]
      simp [Lib.byteCells, hj]

def TxPost' (w : World) (s : ByteArray) (err : Int) (e : Ending) (w' : World) : Prop := e = .returned (.tuple #[.string s, .int .i64 err]) ∧ Ext [] w w'
/-- What Text answers. -/
noncomputable def txtV (ts : List Ty) (d : Nat) (t : Int) (l : List Cl) : ByteArray := if vchk ts d t l = 0 then ⟨(txt nanB ts d t l).toArray⟩ else ⟨#[]⟩

set_option maxRecDepth 100000 in
set_option maxHeartbeats 2000000 in
theorem text_any (ts : List Ty) (ta : Option Addr) (tn tc : Nat) (htn : ts.length = tn) (hc : tn ≤ tc) (d : Nat) (t : Int) (a : Option Addr) (l : List Cl) (n c : Nat) (w : World) (hC : Cs d w a l) (hn : l.length = n) (hnc : n ≤ c) (hT : Tab w ta ts) (hG : Gl w)
    (hP : Lib.TabBelow Tryd.prog w.heap.size w "internal/strconv.uint64pow10" .u64 Lib.pow10Tab) :
    Calls Tryd.prog 13 #[.slice ta tn tc, .int .i64 t, .slice a n c] w (TxPost' w (txtV ts d t l) (vchk ts d t l)) := by
  have hE := Ext.alloc [] w (.cells #[.slice ta tn tc] 22)
  have hb0 := heap_alloc_new w (.cells #[.slice ta tn tc] 22)
  have K := pcheck_any ts ta tn tc htn hc d t a l n c _ (hC.keep0 hE) hn (hT.keep0 hE) (hG.keep0 hE)
  by_cases hv : vchk ts d t l = 0
  · have hTV : txtV ts d t l = ⟨(txt nanB ts d t l).toArray⟩ := by unfold txtV; rw [if_pos hv]
    rw [hTV]
    obtain ⟨hb1, hb2⟩ := vchk_zero hv
    obtain ⟨hS, ht0, ht1⟩ := bad_zero hb1
    obtain ⟨q, rfl⟩ : ∃ q : Nat, t = q := ⟨t.toNat, by omega⟩
    have hlen := okv_len hb2.2
    have hwid : wid ts q = n := by unfold wid; omega
    have h64 := hS.1
    have htot : totL l ≤ 256 := by have := hb2.1; unfold siz at this; omega
    have hll := totL_len l
    have hpot : ([] : List UInt8).length + pot q (l.take (wid ts q)) ≤ 20000000 := by
      rw [hwid, ← hn, List.take_length]
      unfold pot
      have h1 : 3 * (q + 1) * l.length ≤ 192 * 256 := Nat.mul_le_mul (by omega) (by omega)
      simp only [List.length_nil]
      omega
    obtain ⟨d', rfl⟩ : ∃ d', d = d' + 1 := by
      cases d with
      | zero =>
        obtain rfl : l = [] := hC
        have := wid_pos hS (t := q) (by omega)
        simp at hn; omega
      | succ d => exact ⟨d, rfl⟩
    have hpos := txt_pos (nan := nanB) hS (d := d') (t := q) (by omega) hb2.2
    rw [hv] at K ⊢
    have KT := fun bb fb (hbb : w.heap.size ≤ bb) u hu => tell_any w ts ta tn tc w.heap.size bb fb htn hS hT hbb hP (d' + 1) (q + 1) q (by omega) (by omega) a l n c hC hn hnc (by omega) (by rw [hwid, ← hn, List.take_length]; exact hb2.2) u (.slice none 0 0) [] hu hpot
    rw [hwid, List.take_of_length_le (by omega), List.nil_append] at KT
    have HE := hid hE
    have HB0 := hid hb0
    have HKT := hid KT
    generalize txt nanB ts (d' + 1) q l = X at *
    clear hC hT hG hE hb0 hP hTV hb1 hb2 hS hlen hwid htot hll hpot KT hv h64
    go_enter Tryd.func13, Tryd.ntmps13
    go_upto_region 7 with (first | (go_at_call 9; refine K.mono ?_; clear K; rintro e w1 ⟨rfl, hE1⟩))
    have hE2 := (Ext.alloc [] w1 (.cells #[.slice none 0 0] 56)).trans (Ext.alloc [] _ (.cells #[.func (.func 31) #[] #[.pointer (some ⟨w.heap.size, 0, none⟩), .pointer (some ⟨w1.heap.size, 0, none⟩), .pointer (some ⟨w1.heap.size + 1, 0, none⟩)]] 57))
    have hb1 := heap_alloc2_old w1 (.cells #[.slice none 0 0] 56) (.cells #[.func (.func 31) #[] #[.pointer (some ⟨w.heap.size, 0, none⟩), .pointer (some ⟨w1.heap.size, 0, none⟩), .pointer (some ⟨w1.heap.size + 1, 0, none⟩)]] 57)
    have hb2 := heap_alloc2_new w1 (.cells #[.slice none 0 0] 56) (.cells #[.func (.func 31) #[] #[.pointer (some ⟨w.heap.size, 0, none⟩), .pointer (some ⟨w1.heap.size, 0, none⟩), .pointer (some ⟨w1.heap.size + 1, 0, none⟩)]] 57)
    have hsz := hE1.size
    generalize (w1.alloc (.cells #[.slice none 0 0] 56)).alloc (.cells #[.func (.func 31) #[] #[.pointer (some ⟨w.heap.size, 0, none⟩), .pointer (some ⟨w1.heap.size, 0, none⟩), .pointer (some ⟨w1.heap.size + 1, 0, none⟩)]] 57) = w2 at *
    have hE12 := (HE.out.trans hE1).trans hE2
    have hb3 := (hE1.trans hE2).keep HB0.out (by simp)
    have hz : w.heap.size ≤ w1.heap.size := by simp at hsz; omega
    have hst : St w ta tn tc w.heap.size w1.heap.size (w1.heap.size + 1) w2 (.slice none 0 0) [] := ⟨hE12, hb3, hb2, hb1, own_nil _ _ _ _⟩
    have K2 := HKT.out _ _ hz _ hst
    have z8 := hst.cf
    unfold tfn at z8
    clear hE1 hE2 hE12 hb1 hb2 hb3 hst HKT hsz
    go_wp2_with fail
    refine K2.mono ?_
    clear K2 z8
    rintro e w4 ⟨ra, rc, bv, rfl, _, _, h4, _⟩
    have cb := h4.cb
    have hcv := conv_any h4.own hpos
    have HX := hid h4.ext
    obtain ⟨a4, c4, rfl, _⟩ := own_slice h4.own
    clear h4
    generalize X.length = m4 at *
    go_wp2_with fail
    go_ret2
    exact ⟨rfl, HX.out⟩
  · have hTV : txtV ts d t l = ⟨#[]⟩ := by unfold txtV; rw [if_neg hv]
    rw [hTV]
    have HE := hid hE
    have hne : (vchk ts d t l != 0) = true := by simpa using hv
    generalize vchk ts d t l = er at *
    clear hC hT hG hE hb0 hP hTV hv
    go_enter Tryd.func13, Tryd.ntmps13
    go_wp2_with (go_at_call 9; refine K.mono ?_; clear K; rintro e w1 ⟨rfl, hE1⟩)
    go_ret2
    exact ⟨rfl, HE.out.trans hE1⟩

/-- The library's powers of ten. -/
def Tp (w : World) : Prop := Lib.TabIs Tryd.prog w "internal/strconv.uint64pow10" .u64 Lib.pow10Tab
theorem Tp.keep0 {w w' : World} (h : Tp w) (e : Ext [] w w') : Tp w' := Lib.tabBelow_of_tabIs h w' e.below

theorem pb_KS {ts : List Ty} (hS : Sound ts) {q : Nat} (hq : q < ts.length) (i : Nat) : pb ts q i = (KS ts (parts (tyAt ts q)) i).length := by
  have hF := (hS.2.1 q hq).1
  have h1 := sumWidth_kinds (ts := ts) ((parts (tyAt ts q)).take i) (fun p hp => by
    have hb := hF.below p (List.mem_of_mem_take hp)
    exact kinds_len hS.2.1 (p.toNat + 1) p hb.1 (by omega) (by omega))
  unfold pb offs KS
  omega
theorem partL_pc {ts : List Ty} (hS : Sound ts) {q : Nat} (hq : q < ts.length) {l : List Cl} {i : Nat} (hi : i < (parts (tyAt ts q)).length) : partL ts q l i = pc ts (parts (tyAt ts q)) l i := by
  unfold partL pc
  rw [pb_KS hS hq, pb_KS hS hq, KS_len hi, List.drop_take, Nat.add_sub_cancel_left]
theorem totL_pc {ts : List Ty} {ps : List Int} {l : List Cl} (k : Nat) : totL (pc ts ps l k) ≤ totL l := by
  have h1 : l = l.take (KS ts ps k).length ++ l.drop (KS ts ps k).length := (List.take_append_drop _ _).symm
  have h2 : totL l = totL (l.take (KS ts ps k).length) + totL (l.drop (KS ts ps k).length) := by conv => lhs; rw [h1, totL_append]
  have h3 := totL_take_le (l.drop (KS ts ps k).length) (wid ts (ps.getD k 0))
  unfold pc
  omega
/-- What is known of a sound value's part. -/
theorem part_sound {ts : List Ty} {d q : Nat} {l : List Cl} (hv : vchk ts d q l = 0) {i p : Nat} (hi : i < (parts (tyAt ts q)).length) (hp : (parts (tyAt ts q)).getD i 0 = p) : vchk ts d p (pc ts (parts (tyAt ts q)) l i) = 0 := by
  obtain ⟨h1, h2⟩ := vchk_zero hv
  obtain ⟨hS, _, hq⟩ := bad_zero h1
  have hF := (hS.2.1 q (by omega)).1
  have hb := hF.below _ (getD_mem hi)
  have hps : parts (tyAt ts q) ≠ [] := fun e => by rw [e] at hi; simp at hi
  have hke := kinds_eq hS.2.1 (t := (q : Int)) (by omega) (by omega)
  rw [if_neg hps] at hke
  have hO := h2.2
  rw [hke] at hO
  have h3 := okv_pc hO hi
  rw [hp] at h3 hb
  refine vchk_ok (bad_ok hS (by omega)) ⟨?_, h3⟩
  have h4 := totL_pc (ts := ts) (ps := parts (tyAt ts q)) (l := l) i
  have h5 := h2.1
  unfold siz at *
  omega
theorem partV_pc {ts : List Ty} {d q : Nat} {l : List Cl} (hv : vchk ts d q l = 0) {i : Nat} (hi : i < (parts (tyAt ts q)).length) : fchk ts d q l i = 0 ∧ partV ts d q l i = pc ts (parts (tyAt ts q)) l i := by
  have hps : parts (tyAt ts q) ≠ [] := fun e => by rw [e] at hi; simp at hi
  have h1 : fchk ts d q l i = 0 := fchk_ok hv hps (by omega)
  obtain ⟨hS, _, hq⟩ := bad_zero (vchk_zero hv).1
  refine ⟨h1, ?_⟩
  unfold partV
  rw [if_pos h1, Int.toNat_natCast, partL_pc hS (by omega) hi]
theorem bytes_cat (a b : List UInt8) : (⟨a.toArray⟩ : ByteArray) ++ (⟨b.toArray⟩ : ByteArray) = ⟨(a ++ b).toArray⟩ := by
  apply ByteArray.ext
  simp [ByteArray.data_append]

/-- What is held may be more from here on. -/
theorem wpAnyH_more {P : Program} {md : Region.Mode} {ops : Array Oper} {Q : Exit → Act → World → Prop} {S S' : World → Prop} (hs : ∀ w, S' w → S w) : ∀ (fuel : Nat) (listed : Array Bool) (a : Act) (w : World), wpAnyH P md ops Q S' fuel listed a w → wpAnyH P md ops Q S fuel listed a w
  | 0, _, _, _, h => h
  | fuel + 1, _, _, _, h => ⟨h.1, fun i hi => wpOp_mono (fun a' w' h' => ⟨hs w' h'.1, wpAnyH_more hs fuel _ a' w' h'.2⟩) (h.2 i hi)⟩

set_option maxRecDepth 100000 in
set_option maxHeartbeats 8000000 in
theorem textsWalk (ts : List Ty) (ta : Option Addr) (tn tc : Nat) (htn : ts.length = tn) (d : Nat) (t : Int) (a : Option Addr) (l : List Cl) (n c : Nat) (w : World) (hC : Cs d w a l) (hn : l.length = n) (hT : Tab w ta ts) (hG : Gl w) (hP : Tp w) :
    Calls Tryd.prog 6 #[.agg #[.slice ta tn tc, .int .i64 t, .slice a n c]] w (SayPost w (.bool true)) := by
  have hE0 := Ext.alloc [] w (.cells #[.slice ta tn tc, .int .i64 t, .slice a n c] 25)
  have hQ0 : Q3 (w.alloc (.cells #[.slice ta tn tc, .int .i64 t, .slice a n c] 25)) w.heap.size ta tn tc t a n c := heap_alloc_new _ _
  have KA := awake_any _ (hG.keep0 hE0)
  have HT := hid hT
  have HG := hid hG
  have HC := hid hC
  have HP := hid hP
  have HE0 := hid hE0
  have HQ0 := hid hQ0
  have HN := hid hn
  have HTN := hid htn
  clear hT hG hC hP hE0 hQ0 hn htn
  go_enter Tryd.func6, Tryd.ntmps6
  go_upto_region 3 with (go_at_call 8; refine KA.mono ?_; clear KA; rintro e w1 ⟨rfl, hE1⟩)
  have hE01 := HE0.out.trans hE1
  have hQ1 := HQ0.out.keep0 hE1
  generalize w.heap.size = qb at *
  have q0 := hQ1.c0
  have q1 := hQ1.c1
  have q2 := hQ1.c2
  have KT := fun u (hu : Ext [] w u) => tcopy_any ta ts tn tc u (HT.out.keep0 hu) HTN.out
  have KV := fun u (hu : Ext [] w u) => rcopy_any d a l n c u (HC.out.keep0 hu) HN.out
  have KX := fun u (hu : Ext [] w u) at1 ct1 hct av1 cv1 hcv (hC1 : Cs d u av1 l) (hT1 : TabC u at1 ts) => text_any ts at1 tn ct1 HTN.out hct d t av1 l n cv1 u hC1 HN.out hcv hT1.tab (HG.out.keep0 hu) (Lib.tabBelow_of_tabIs (HP.out.keep0 hu))
  have HKT := hid KT
  have HKV := hid KV
  have HQ1 := hid hQ1
  clear hE1 hQ1
  go_region_held3 (fun w' => w'.cell? ⟨qb, 0, none⟩ = some (.slice ta tn tc) ∧ w'.cell? ⟨qb, 1, none⟩ = some (.int .i64 t) ∧ w'.cell? ⟨qb, 2, none⟩ = some (.slice a n c))
    (first | exact ⟨Ext.cell (by (repeat (first | (with_reducible exact Ext.refl [] _) | (with_reducible exact Ext.drew [] _) | (with_reducible assumption) | (with_reducible refine Ext.trans ?_ (Ext.drew [] _)) | (with_reducible refine Ext.trans ?_ (by assumption)) | fail "no chain"))) q0 (by simp), Ext.cell (by (repeat (first | (with_reducible exact Ext.refl [] _) | (with_reducible exact Ext.drew [] _) | (with_reducible assumption) | (with_reducible refine Ext.trans ?_ (Ext.drew [] _)) | (with_reducible refine Ext.trans ?_ (by assumption)) | fail "no chain"))) q1 (by simp), Ext.cell (by (repeat (first | (with_reducible exact Ext.refl [] _) | (with_reducible exact Ext.drew [] _) | (with_reducible assumption) | (with_reducible refine Ext.trans ?_ (Ext.drew [] _)) | (with_reducible refine Ext.trans ?_ (by assumption)) | fail "no chain"))) q2 (by simp)⟩ | go_keep)
    (first
      | (go_at_call 10; (with_reducible refine Calls.mono (KT _ ?_) ?_); (repeat (first | (with_reducible exact Ext.refl [] _) | (with_reducible exact Ext.drew [] _) | (with_reducible assumption) | (with_reducible refine Ext.trans ?_ (Ext.drew [] _)) | (with_reducible refine Ext.trans ?_ (by assumption)) | fail "no chain")); rintro e wt ⟨at1, ct1, rfl, hct, hTC, hEt⟩)
      | (go_at_call 11; (with_reducible refine Calls.mono (KV _ ?_) ?_); (repeat (first | (with_reducible exact Ext.refl [] _) | (with_reducible exact Ext.drew [] _) | (with_reducible assumption) | (with_reducible refine Ext.trans ?_ (Ext.drew [] _)) | (with_reducible refine Ext.trans ?_ (by assumption)) | fail "no chain")); rintro e wv ⟨av1, cv1, rfl, hcv, hCo, hEv⟩)
      | (go_at_call 13; refine Calls.mono (KX _ ?_ at1 ct1 hct av1 cv1 hcv (hCo.cs.keep0 ?_) (hTC.keep0 ?_)) ?_; (repeat (first | (with_reducible exact Ext.refl [] _) | (with_reducible exact Ext.drew [] _) | (with_reducible assumption) | (with_reducible refine Ext.trans ?_ (Ext.drew [] _)) | (with_reducible refine Ext.trans ?_ (by assumption)) | fail "no chain")); (repeat (first | (with_reducible exact Ext.refl [] _) | (with_reducible exact Ext.drew [] _) | (with_reducible assumption) | (with_reducible refine Ext.trans ?_ (Ext.drew [] _)) | (with_reducible refine Ext.trans ?_ (by assumption)) | fail "no chain")); (repeat (first | (with_reducible exact Ext.refl [] _) | (with_reducible exact Ext.drew [] _) | (with_reducible assumption) | (with_reducible refine Ext.trans ?_ (Ext.drew [] _)) | (with_reducible refine Ext.trans ?_ (by assumption)) | fail "no chain")); rintro e wp ⟨rfl, hEp⟩))
  rename_i hHeld
  clear q0 q1 q2
  obtain ⟨q0, q1, q2⟩ := hHeld
  have hEa : Ext [] w wp := by (repeat (first | (with_reducible exact Ext.refl [] _) | (with_reducible exact Ext.drew [] _) | (with_reducible assumption) | (with_reducible refine Ext.trans ?_ (Ext.drew [] _)) | (with_reducible refine Ext.trans ?_ (by assumption)) | fail "no chain"))
  clear hE01 hEt hEv hEp hTC hCo KX hct hcv KT KV HQ1
  by_cases hv : vchk ts d t l = 0
  · have hTV : txtV ts d t l = ⟨(txt nanB ts d t l).toArray⟩ := by unfold txtV; rw [if_pos hv]
    rw [hTV, hv]
    obtain ⟨hb1, hb2⟩ := vchk_zero hv
    obtain ⟨hS, ht0, ht1⟩ := bad_zero hb1
    obtain ⟨q, rfl⟩ : ∃ q : Nat, t = q := ⟨t.toNat, by omega⟩
    have hqn : q < tn := by have := HTN.out; omega
    have hF := (hS.2.1 q (by omega)).1
    obtain ⟨b, o, rfl, hat⟩ := HT.out.addr (by omega)
    obtain ⟨fa, fc, hty⟩ := hat q (by omega)
    have K2 := fun u (hu : Ext [] w u) => parts_any (tyAt ts q) fa fc u (hty.keep0 hu).f (fun h9 => by have := hF.2.2.2.2.1 h9; omega)
    unfold tyVal at K2
    have HCells : Hid (∀ u, Ext [] wp u → (u.cell? ⟨qb, 0, none⟩ = some (.slice (some ⟨b, o, none⟩) tn tc) ∧ u.cell? ⟨qb, 1, none⟩ = some (.int .i64 (q : Int)) ∧ u.cell? ⟨qb, 2, none⟩ = some (.slice a n c)) ∧ u.cell? ⟨b, o + q * 5, none⟩ = some (.int .i64 (tyAt ts q).kind) ∧ u.cell? ⟨b, o + q * 5 + 1, none⟩ = some (.int .i64 (tyAt ts q).elem) ∧ u.cell? ⟨b, o + q * 5 + 2, none⟩ = some (.int .i64 (tyAt ts q).key) ∧ u.cell? ⟨b, o + q * 5 + 3, none⟩ = some (.int .i64 (tyAt ts q).len) ∧ u.cell? ⟨b, o + q * 5 + 4, none⟩ = some (.slice fa (tyAt ts q).fields.length fc)) := fun u hu => by
      have h := (hty.keep0 hEa).keep0 hu
      exact ⟨⟨hu.cell q0 (by simp), hu.cell q1 (by simp), hu.cell q2 (by simp)⟩, h.c0, h.c1, h.c2, h.c3, h.c4⟩
    obtain ⟨_, c0, c1, c2, c3, c4⟩ := HCells.out wp (Ext.refl _ _)
    have HEa := hid hEa
    have HK2 := hid K2
    have K2a := K2 wp hEa
    have hd1 : ∃ d', d = d' + 1 := by
      cases d with
      | zero =>
        have h1 : l = [] := HC.out
        have := okv_len hb2.2
        have h2 := wid_pos hS (t := q) (by omega)
        unfold wid at h2
        rw [h1] at this
        simp at this; omega
      | succ d => exact ⟨d, rfl⟩
    have hpos : 1 ≤ (txt nanB ts d q l).length := by
      obtain ⟨d', rfl⟩ := hd1
      exact txt_pos hS (by omega) hb2.2
    by_cases hps : parts (tyAt ts q) = []
    · rw [hps] at K2a
      have hsz : (0 : Int) < ((⟨(txt nanB ts d q l).toArray⟩ : ByteArray).size : Int) := by
        have : (⟨(txt nanB ts d q l).toArray⟩ : ByteArray).size = (txt nanB ts d q l).length := by simp [ByteArray.size]
        omega
      have hszN : decide (0 < (⟨(txt nanB ts d q l).toArray⟩ : ByteArray).size) = true := decide_eq_true (by omega)
      generalize (⟨(txt nanB ts d q l).toArray⟩ : ByteArray) = sb at *
      clear HCells hTV hb1 hb2 hS hF hat hty K2 HK2 hEa hpos hd1 hv hps HKT HKV
      generalize (tyAt ts q).kind = kd at *
      generalize (tyAt ts q).elem = el at *
      generalize (tyAt ts q).key = ky at *
      generalize (tyAt ts q).len = ln at *
      generalize (tyAt ts q).fields.length = fl at *
      go_wp2_with fail
      refine K2a.mono ?_
      clear K2a
      rintro e w2 ⟨ia, ic, rfl, _, hE2⟩
      have HE2 := hid (HEa.out.trans hE2)
      clear hE2
      go_wp2_with fail
      go_ret
      exact ⟨rfl, HE2.out⟩
    · have hke := kinds_eq hS.2.1 (t := (q : Int)) (by omega) (by omega)
      rw [if_neg hps] at hke
      have htp := txt_parts (nan := nanB) hS.2.1 (d := d) (t := (q : Int)) (l := l) (by omega) (by omega) hps
      have hpl := parts_len hF
      have hp1 : 0 < (parts (tyAt ts q)).length := List.length_pos_iff.2 hps
      have hk89 : (tyAt ts q).kind = 8 ∨ (tyAt ts q).kind = 9 := by
        by_cases h8 : (tyAt ts q).kind = 8
        · exact .inl h8
        · by_cases h9 : (tyAt ts q).kind = 9
          · exact .inr h9
          · exact absurd (parts0 h8 h9) hps
      have HPB : Hid (∀ k, k < (parts (tyAt ts q)).length → ∃ p : Nat, (parts (tyAt ts q)).getD k 0 = p ∧ p < tn ∧ vchk ts d p (pc ts (parts (tyAt ts q)) l k) = 0) := fun k hk => by
        have hb := hF.below _ (getD_mem hk)
        obtain ⟨p, hp⟩ : ∃ p : Nat, (parts (tyAt ts q)).getD k 0 = p := ⟨((parts (tyAt ts q)).getD k 0).toNat, by omega⟩
        exact ⟨p, hp, by omega, part_sound hv hk hp⟩
      have HPV : Hid (∀ k : Nat, k < (parts (tyAt ts q)).length → fchk ts d q l k = 0 ∧ partV ts d q l k = pc ts (parts (tyAt ts q)) l k) := fun k hk => partV_pc hv hk
      have HTX := hid htp
      have htot : totL l ≤ 256 := by have := hb2.1; unfold siz at this; omega
      have hO := hb2.2
      rw [hke] at hO
      have hll := okv_len hO
      have h64 := hS.1
      have HTB : Hid (∀ k, k < (parts (tyAt ts q)).length → (txt nanB ts d ((parts (tyAt ts q)).getD k 0) (pc ts (parts (tyAt ts q)) l k)).length ≤ 13000 * totL (pc ts (parts (tyAt ts q)) l k) + 195 * (totL (pc ts (parts (tyAt ts q)) l k) - (pc ts (parts (tyAt ts q)) l k).length) + 3 * q * (pc ts (parts (tyAt ts q)) l k).length) := fun k hk => by
        have hb := hF.below _ (getD_mem hk)
        obtain ⟨a', hC'⟩ := HC.out.pc ts (parts (tyAt ts q)) k
        obtain ⟨p, hp⟩ : ∃ p : Nat, (parts (tyAt ts q)).getD k 0 = p := ⟨((parts (tyAt ts q)).getD k 0).toNat, by omega⟩
        have hO' := okv_pc hO hk
        rw [hp] at hO' ⊢
        have := txt_len (nan := nanB) hS w d (p + 1) p a' _ (by omega) (by omega) hC' hO'
        have h3 : 3 * (p + 1) * (pc ts (parts (tyAt ts q)) l k).length ≤ 3 * q * (pc ts (parts (tyAt ts q)) l k).length := Nat.mul_le_mul_right _ (by omega)
        omega
      have HJB : Hid (∀ k, k ≤ (parts (tyAt ts q)).length → (jnT ts (txt nanB ts d) (parts (tyAt ts q)) l k).length ≤ 10000000) := fun k hk => by
        have h1 := jnT_len (g := txt nanB ts d) (t := q) hll HTB.out k hk
        have h2 := totL_take_le l (KS ts (parts (tyAt ts q)) k).length
        have h3 := totL_len (l.take (KS ts (parts (tyAt ts q)) k).length)
        have h4 : 3 * q * (l.take (KS ts (parts (tyAt ts q)) k).length).length ≤ 192 * 256 := Nat.mul_le_mul (by omega) (by omega)
        omega
      have HTB2 : Hid (∀ k, k < (parts (tyAt ts q)).length → (txt nanB ts d ((parts (tyAt ts q)).getD k 0) (pc ts (parts (tyAt ts q)) l k)).length ≤ 10000000) := fun k hk => by
        have h1 := HTB.out k hk
        have h2 := totL_pc (ts := ts) (ps := parts (tyAt ts q)) (l := l) k
        have h3 := totL_len (pc ts (parts (tyAt ts q)) l k)
        have h4 : 3 * q * (pc ts (parts (tyAt ts q)) l k).length ≤ 192 * 256 := Nat.mul_le_mul (by omega) (by omega)
        omega
      clear htot hO hll h64 HTB
      clear hTV hb1 hb2 hS hF hat hty K2 hEa hpos hd1 hv hke htp q0 q1 q2
      generalize hpsE : parts (tyAt ts q) = ps at *
      generalize (tyAt ts q).elem = el at *
      generalize (tyAt ts q).key = ky at *
      generalize (tyAt ts q).len = ln at *
      generalize (tyAt ts q).fields.length = fl at *
      generalize hkd : (tyAt ts q).kind = kd at *
      obtain ⟨sb, hsb⟩ : ∃ sb : ByteArray, sb = ⟨(txt nanB ts d q l).toArray⟩ := ⟨_, rfl⟩
      rw [← hsb]
      have HSB := hid hsb
      clear hsb
      obtain ⟨⟨q0, q1, q2⟩, _⟩ := HCells.out wp (Ext.refl _ _)
      have hp2 : ¬ ((ps.length : Int) = 0) := by omega
      have hp3 : ((ps.length : Int) == 0) = false := by simp only [beq_eq_false_iff_ne]; exact hp2
      go_wp2_with fail
      refine K2a.mono ?_
      clear K2a c0 c1 c2 c3 c4
      rintro e w2 ⟨ia, ic, rfl, _, hE2⟩
      have HE2 := hid (HEa.out.trans hE2)
      have HE2p := hid hE2
      clear hE2 q0 q1 q2
      go_wp2_with fail
      go_loopw [6, 7] (fun sv u wr => ∃ k : Nat, u = .int .i64 k ∧ k ≤ ps.length ∧ sv = .string ⟨(jnT ts (txt nanB ts d) ps l k).toArray⟩ ∧ Ext [] w wr ∧ Ext [] wp wr) (fun _ u _ => (ps.length - (intOf u)).toNat)
      case atStart => exact ⟨0, rfl, by omega, rfl, HE2.out, HE2p.out⟩
      case round =>
        clear HE2 HE2p
        obtain ⟨k, rfl, hk, rfl, hEr, hEpr⟩ := hrel
        obtain ⟨ob, hob⟩ : ∃ ob : ByteArray, ob = ⟨(jnT ts (txt nanB ts d) ps l k).toArray⟩ := ⟨_, rfl⟩
        rw [← hob]
        have HOB := hid hob
        clear hob
        by_cases hlt : k < ps.length
        · obtain ⟨p, hpp, hpn, hvp⟩ := HPB.out k hlt
          obtain ⟨hfk, hpv⟩ := HPV.out k hlt
          have KT := HKT.out
          have KV := HKV.out
          have KP := fun u (hu : Ext [] w u) at1 ct1 hct av1 cv1 hcv (hC1 : Cs d u av1 l) (hT1 : TabC u at1 ts) => part_any ts at1 tn ct1 HTN.out hct d (q : Int) (k : Int) av1 l n cv1 u hC1 HN.out hcv hT1 (HG.out.keep0 hu)
          rw [hfk, hpv] at KP
          have KX := fun u (hu : Ext [] w u) at1 ct1 hct av1 cv1 hcv (hC1 : Cs d u av1 (pc ts ps l k)) (hT1 : TabC u at1 ts) => text_any ts at1 tn ct1 HTN.out hct d (p : Int) av1 (pc ts ps l k) _ cv1 u hC1 rfl hcv hT1.tab (HG.out.keep0 hu) (Lib.tabBelow_of_tabIs (HP.out.keep0 hu))
          have hTV : txtV ts d p (pc ts ps l k) = ⟨(txt nanB ts d p (pc ts ps l k)).toArray⟩ := by unfold txtV; rw [if_pos hvp]
          rw [hTV, hvp] at KX
          obtain ⟨tx, htx⟩ : ∃ tx : ByteArray, tx = ⟨(txt nanB ts d p (pc ts ps l k)).toArray⟩ := ⟨_, rfl⟩
          rw [← htx] at KX
          have HTX2 := hid htx
          have HPP := hid hpp
          have HLT := hid hlt
          have hkn : (k : Int) < (ps.length : Int) := by omega
          obtain ⟨⟨q0, q1, q2⟩, c0, c1, c2, c3, c4⟩ := HCells.out wr hEpr
          clear hTV htx hvp hfk hpv hpp
          go_upto_region 13 with fail
          go_region_held3 (fun w' => w'.cell? ⟨qb, 0, none⟩ = some (.slice (some ⟨b, o, none⟩) tn tc) ∧ w'.cell? ⟨qb, 1, none⟩ = some (.int .i64 (q : Int)) ∧ w'.cell? ⟨qb, 2, none⟩ = some (.slice a n c))
            (first | exact ⟨Ext.cell (by (repeat (first | (with_reducible exact Ext.refl [] _) | (with_reducible exact Ext.drew [] _) | (with_reducible assumption) | (with_reducible refine Ext.trans ?_ (Ext.drew [] _)) | (with_reducible refine Ext.trans ?_ (by assumption)) | fail "no chain"))) q0 (by simp), Ext.cell (by (repeat (first | (with_reducible exact Ext.refl [] _) | (with_reducible exact Ext.drew [] _) | (with_reducible assumption) | (with_reducible refine Ext.trans ?_ (Ext.drew [] _)) | (with_reducible refine Ext.trans ?_ (by assumption)) | fail "no chain"))) q1 (by simp), Ext.cell (by (repeat (first | (with_reducible exact Ext.refl [] _) | (with_reducible exact Ext.drew [] _) | (with_reducible assumption) | (with_reducible refine Ext.trans ?_ (Ext.drew [] _)) | (with_reducible refine Ext.trans ?_ (by assumption)) | fail "no chain"))) q2 (by simp)⟩ | go_keep)
            (first
              | (go_at_call 10; (with_reducible refine Calls.mono (KT _ ?_) ?_); (repeat (first | (with_reducible exact Ext.refl [] _) | (with_reducible exact Ext.drew [] _) | (with_reducible assumption) | (with_reducible refine Ext.trans ?_ (Ext.drew [] _)) | (with_reducible refine Ext.trans ?_ (by assumption)) | fail "no chain")); rintro e wt ⟨at1, ct1, rfl, hct, hTC, hEt⟩)
              | (go_at_call 11; (with_reducible refine Calls.mono (KV _ ?_) ?_); (repeat (first | (with_reducible exact Ext.refl [] _) | (with_reducible exact Ext.drew [] _) | (with_reducible assumption) | (with_reducible refine Ext.trans ?_ (Ext.drew [] _)) | (with_reducible refine Ext.trans ?_ (by assumption)) | fail "no chain")); rintro e wv ⟨av1, cv1, rfl, hcv, hCo, hEv⟩)
              | (go_at_call 21; refine Calls.mono (KP _ ?_ at1 ct1 hct av1 cv1 hcv (hCo.cs.keep0 ?_) (hTC.keep0 ?_)) ?_; (repeat (first | (with_reducible exact Ext.refl [] _) | (with_reducible exact Ext.drew [] _) | (with_reducible assumption) | (with_reducible refine Ext.trans ?_ (Ext.drew [] _)) | (with_reducible refine Ext.trans ?_ (by assumption)) | fail "no chain")); (repeat (first | (with_reducible exact Ext.refl [] _) | (with_reducible exact Ext.drew [] _) | (with_reducible assumption) | (with_reducible refine Ext.trans ?_ (Ext.drew [] _)) | (with_reducible refine Ext.trans ?_ (by assumption)) | fail "no chain")); (repeat (first | (with_reducible exact Ext.refl [] _) | (with_reducible exact Ext.drew [] _) | (with_reducible assumption) | (with_reducible refine Ext.trans ?_ (Ext.drew [] _)) | (with_reducible refine Ext.trans ?_ (by assumption)) | fail "no chain")); rintro e wq ⟨ap, cp, rfl, hcp, hCp, hEp⟩))
          rename_i hHeld
          have hEsp : Ext [] wr wq := by (repeat (first | (with_reducible exact Ext.refl [] _) | (with_reducible exact Ext.drew [] _) | (with_reducible assumption) | (with_reducible refine Ext.trans ?_ (Ext.drew [] _)) | (with_reducible refine Ext.trans ?_ (by assumption)) | fail "no chain"))
          have hEs := hEr.trans hEsp
          have hEd := Ext.drew [] wq
          have HCd := hid (hCp.cs.keep0 hEd)
          have hEw := hEs.trans hEd
          have hEwp := (hEpr.trans hEsp).trans hEd
          have hEa := HEa.out
          have HNE := hid hps
          clear hHeld hEt hEv hEp hTC hCo hct hcv q0 q1 q2 c0 c1 c2 c3 c4 hEr hEpr hEsp hEs hEd hCp KV KP
          obtain ⟨⟨q0, q1, q2⟩, c0, c1, c2, c3, c4⟩ := HCells.out wq.drew hEwp
          go_upto_region 14 with fail
          go_cut [10, 11] from 43 to 91 (fun x y wc => x = .string tx ∧ y = .int .i64 0 ∧ Ext [] w wc ∧ Ext [] wp wc)
          case first =>
            refine wp_region_held_drew (S := fun w' => (w'.cell? ⟨qb, 0, none⟩ = some (.slice (some ⟨b, o, none⟩) tn tc) ∧ w'.cell? ⟨qb, 1, none⟩ = some (.int .i64 (q : Int))) ∧ w'.cell? ⟨b, o + q * 5, none⟩ = some (.int .i64 kd) ∧ w'.cell? ⟨b, o + q * 5 + 1, none⟩ = some (.int .i64 el) ∧ w'.cell? ⟨b, o + q * 5 + 2, none⟩ = some (.int .i64 ky) ∧ w'.cell? ⟨b, o + q * 5 + 3, none⟩ = some (.int .i64 ln) ∧ w'.cell? ⟨b, o + q * 5 + 4, none⟩ = some (.slice fa fl fc)) (by kernel_rfl) ⟨⟨q0, q1⟩, c0, c1, c2, c3, c4⟩ (fun hHeld => ?_)
            refine wpAnyH_take (i := 0) (oi := { dst := some 62, op := _, type := _, pos := _, after := _, guard := _ }) (v := .pointer (some ⟨qb, 0, none⟩)) rfl (by kernel_rfl) (by kernel_rfl) (by kernel_rfl) (fun _ _ _ h => h) (Or.inl ⟨by rfl, ?_⟩) (by assumption) ?_
            · intro w hSw
              (try dsimp only at hSw)
              first | (go_simp; done) | (go_simp; with_reducible rfl)
            (try simp only [Act.put, List.setIfInBounds_toArray, List.set_cons_zero, List.set_cons_succ])
            refine wpAnyH_take (i := 1) (oi := { dst := some 63, op := _, type := _, pos := _, after := _, guard := _ }) (v := .slice (some ⟨b, o, none⟩) tn tc) rfl (by kernel_rfl) (by kernel_rfl) (by kernel_rfl) (fun _ _ _ h => h) (Or.inl ⟨by rfl, ?_⟩) (by assumption) ?_
            · intro w hSw
              (try dsimp only at hSw)
              first | (go_simp; done) | (go_simp; with_reducible rfl)
            (try simp only [Act.put, List.setIfInBounds_toArray, List.set_cons_zero, List.set_cons_succ])
            refine wpAnyH_take (i := 3) (oi := { dst := some 65, op := _, type := _, pos := _, after := _, guard := _ }) (v := .pointer (some ⟨qb, 0, none⟩)) rfl (by kernel_rfl) (by kernel_rfl) (by kernel_rfl) (fun _ _ _ h => h) (Or.inl ⟨by rfl, ?_⟩) (by assumption) ?_
            · intro w hSw
              (try dsimp only at hSw)
              first | (go_simp; done) | (go_simp; with_reducible rfl)
            (try simp only [Act.put, List.setIfInBounds_toArray, List.set_cons_zero, List.set_cons_succ])
            refine wpAnyH_take (i := 4) (oi := { dst := some 66, op := _, type := _, pos := _, after := _, guard := _ }) (v := .slice (some ⟨b, o, none⟩) tn tc) rfl (by kernel_rfl) (by kernel_rfl) (by kernel_rfl) (fun _ _ _ h => h) (Or.inl ⟨by rfl, ?_⟩) (by assumption) ?_
            · intro w hSw
              (try dsimp only at hSw)
              first | (go_simp; done) | (go_simp; with_reducible rfl)
            (try simp only [Act.put, List.setIfInBounds_toArray, List.set_cons_zero, List.set_cons_succ])
            refine wpAnyH_take (i := 5) (oi := { dst := some 67, op := _, type := _, pos := _, after := _, guard := _ }) (v := .pointer (some ⟨qb, 1, none⟩)) rfl (by kernel_rfl) (by kernel_rfl) (by kernel_rfl) (fun _ _ _ h => h) (Or.inl ⟨by rfl, ?_⟩) (by assumption) ?_
            · intro w hSw
              (try dsimp only at hSw)
              first | (go_simp; done) | (go_simp; with_reducible rfl)
            (try simp only [Act.put, List.setIfInBounds_toArray, List.set_cons_zero, List.set_cons_succ])
            refine wpAnyH_take (i := 6) (oi := { dst := some 68, op := _, type := _, pos := _, after := _, guard := _ }) (v := .int .i64 (q : Int)) rfl (by kernel_rfl) (by kernel_rfl) (by kernel_rfl) (fun _ _ _ h => h) (Or.inl ⟨by rfl, ?_⟩) (by assumption) ?_
            · intro w hSw
              (try dsimp only at hSw)
              first | (go_simp; done) | (go_simp; with_reducible rfl)
            (try simp only [Act.put, List.setIfInBounds_toArray, List.set_cons_zero, List.set_cons_succ])
            refine wpAnyH_take (i := 7) (oi := { dst := some 69, op := _, type := _, pos := _, after := _, guard := _ }) (v := .pointer (some ⟨b, o + q * 5, none⟩)) rfl (by kernel_rfl) (by kernel_rfl) (by kernel_rfl) (fun _ _ _ h => h) (Or.inl ⟨by rfl, ?_⟩) (by assumption) ?_
            · intro w hSw
              (try dsimp only at hSw)
              first | (go_simp; done) | (go_simp; with_reducible rfl)
            (try simp only [Act.put, List.setIfInBounds_toArray, List.set_cons_zero, List.set_cons_succ])
            refine wpAnyH_take (i := 8) (oi := { dst := some 70, op := _, type := _, pos := _, after := _, guard := _ }) (v := .agg #[.int .i64 kd, .int .i64 el, .int .i64 ky, .int .i64 ln, .slice fa fl fc]) rfl (by kernel_rfl) (by kernel_rfl) (by kernel_rfl) (fun _ _ _ h => h) (Or.inl ⟨by rfl, ?_⟩) (by assumption) ?_
            · intro w hSw
              (try dsimp only at hSw)
              first | (go_simp; done) | (go_simp; with_reducible rfl)
            (try simp only [Act.put, List.setIfInBounds_toArray, List.set_cons_zero, List.set_cons_succ])
            refine wpAnyH_take (i := 10) (oi := { dst := some 72, op := _, type := _, pos := _, after := _, guard := _ }) (v := .int .i64 (k : Int)) rfl (by kernel_rfl) (by kernel_rfl) (by kernel_rfl) (fun _ _ _ h => h) (Or.inl ⟨by rfl, ?_⟩) (by assumption) ?_
            · intro w hSw
              (try dsimp only at hSw)
              first | (go_simp; done) | (go_simp; with_reducible rfl)
            (try simp only [Act.put, List.setIfInBounds_toArray, List.set_cons_zero, List.set_cons_succ])
            refine wpAnyH_take (i := 13) (oi := { dst := some 75, op := _, type := _, pos := _, after := _, guard := _ }) (v := .slice ap (pc ts ps l k).length cp) rfl (by kernel_rfl) (by kernel_rfl) (by kernel_rfl) (fun _ _ _ h => h) (Or.inl ⟨by rfl, ?_⟩) (by assumption) ?_
            · intro w hSw
              (try dsimp only at hSw)
              first | (go_simp; done) | (go_simp; with_reducible rfl)
            (try simp only [Act.put, List.setIfInBounds_toArray, List.set_cons_zero, List.set_cons_succ])
            refine wpAnyH_ready (rs := [2]) (by kernel_rfl) (by simp) ?_
            refine AllReadyH.cons (o := { dst := some 64, op := _, type := _, pos := _, after := _, guard := _ }) rfl (fun K hK => ?_) ?_
            · go_simp
              refine Calls.mono (KT _ ?_) ?_
              · (repeat (first | (with_reducible exact Ext.refl [] _) | (with_reducible exact Ext.drew [] _) | (with_reducible assumption) | (with_reducible refine Ext.trans ?_ (Ext.drew [] _)) | (with_reducible refine Ext.trans ?_ (by assumption)) | fail "no chain"))
              rintro e wt ⟨at1, ct1, rfl, hct, hTC, hEt⟩
              go_wp2_with fail
              refine hK.out _ _ (by obtain ⟨⟨f0, f1, _⟩, g0, g1, g2, g3, g4⟩ := HCells.out wt (by (repeat (first | (with_reducible exact Ext.refl [] _) | (with_reducible exact Ext.drew [] _) | (with_reducible assumption) | (with_reducible refine Ext.trans ?_ (Ext.drew [] _)) | (with_reducible refine Ext.trans ?_ (by assumption)) | fail "no chain"))); exact ⟨⟨f0, f1⟩, g0, g1, g2, g3, g4⟩) (fun hHeld => ?_)
              clear hK K
              (try simp only [Act.put, List.setIfInBounds_toArray, List.set_cons_zero, List.set_cons_succ])
              refine wpAnyH_ready (rs := [9]) (by kernel_rfl) (by simp) ?_
              refine AllReadyH.cons (o := { dst := some 71, op := _, type := _, pos := _, after := _, guard := _ }) rfl (fun K hK => ?_) ?_
              · go_simp
                refine Calls.mono (HK2.out _ ?_) ?_
                · (repeat (first | (with_reducible exact Ext.refl [] _) | (with_reducible exact Ext.drew [] _) | (with_reducible assumption) | (with_reducible refine Ext.trans ?_ (Ext.drew [] _)) | (with_reducible refine Ext.trans ?_ (by assumption)) | fail "no chain"))
                rintro e wx ⟨ia2, ic2, rfl, hIo, hEx⟩
                obtain ⟨ib, io, rfl, hcs⟩ := Is.at_ (xs := ps) (own_vs hIo) HNE.out
                have zc := hcs k HLT.out
                rw [HPP.out] at zc
                go_wp2_with fail
                refine hK.out _ _ (by obtain ⟨⟨f0, f1, _⟩, g0, g1, g2, g3, g4⟩ := HCells.out wx (by (repeat (first | (with_reducible exact Ext.refl [] _) | (with_reducible exact Ext.drew [] _) | (with_reducible assumption) | (with_reducible refine Ext.trans ?_ (Ext.drew [] _)) | (with_reducible refine Ext.trans ?_ (by assumption)) | fail "no chain"))); exact ⟨⟨f0, f1⟩, g0, g1, g2, g3, g4⟩) (fun hHeld => ?_)
                clear hK K
                (try simp only [Act.put, List.setIfInBounds_toArray, List.set_cons_zero, List.set_cons_succ])
                refine wpAnyH_more (S' := fun w' => ((w'.cell? ⟨qb, 0, none⟩ = some (.slice (some ⟨b, o, none⟩) tn tc) ∧ w'.cell? ⟨qb, 1, none⟩ = some (.int .i64 (q : Int))) ∧ w'.cell? ⟨b, o + q * 5, none⟩ = some (.int .i64 kd) ∧ w'.cell? ⟨b, o + q * 5 + 1, none⟩ = some (.int .i64 el) ∧ w'.cell? ⟨b, o + q * 5 + 2, none⟩ = some (.int .i64 ky) ∧ w'.cell? ⟨b, o + q * 5 + 3, none⟩ = some (.int .i64 ln) ∧ w'.cell? ⟨b, o + q * 5 + 4, none⟩ = some (.slice fa fl fc)) ∧ w'.cell? ⟨ib, io + k, none⟩ = some (.int .i64 (p : Int))) (fun _ h => h.1) _ _ _ _ ?_
                have hHeld1 : (fun w' => ((w'.cell? ⟨qb, 0, none⟩ = some (.slice (some ⟨b, o, none⟩) tn tc) ∧ w'.cell? ⟨qb, 1, none⟩ = some (.int .i64 (q : Int))) ∧ w'.cell? ⟨b, o + q * 5, none⟩ = some (.int .i64 kd) ∧ w'.cell? ⟨b, o + q * 5 + 1, none⟩ = some (.int .i64 el) ∧ w'.cell? ⟨b, o + q * 5 + 2, none⟩ = some (.int .i64 ky) ∧ w'.cell? ⟨b, o + q * 5 + 3, none⟩ = some (.int .i64 ln) ∧ w'.cell? ⟨b, o + q * 5 + 4, none⟩ = some (.slice fa fl fc)) ∧ w'.cell? ⟨ib, io + k, none⟩ = some (.int .i64 (p : Int))) wx := ⟨hHeld, zc⟩
                refine wpAnyH_take (i := 11) (oi := { dst := some 73, op := _, type := _, pos := _, after := _, guard := _ }) (v := .pointer (some ⟨ib, io + k, none⟩)) rfl (by kernel_rfl) (by kernel_rfl) (by kernel_rfl) (fun _ _ _ h => h) (Or.inl ⟨by rfl, ?_⟩) (by assumption) ?_
                · intro w hSw
                  (try dsimp only at hSw)
                  first | (go_simp; done) | (go_simp; with_reducible rfl)
                (try simp only [Act.put, List.setIfInBounds_toArray, List.set_cons_zero, List.set_cons_succ])
                refine wpAnyH_take (i := 12) (oi := { dst := some 74, op := _, type := _, pos := _, after := _, guard := _ }) (v := .int .i64 (p : Int)) rfl (by kernel_rfl) (by kernel_rfl) (by kernel_rfl) (fun _ _ _ h => h) (Or.inl ⟨by rfl, ?_⟩) (by assumption) ?_
                · intro w hSw
                  (try dsimp only at hSw)
                  first | (go_simp; done) | (go_simp; with_reducible rfl)
                (try simp only [Act.put, List.setIfInBounds_toArray, List.set_cons_zero, List.set_cons_succ])
                refine wpAnyH_ready (rs := [14]) (by kernel_rfl) (by simp) ?_
                refine AllReadyH.cons (o := { dst := some 76, op := _, type := _, pos := _, after := _, guard := _ }) rfl (fun K hK => ?_) ?_
                · go_simp
                  refine Calls.mono (KX _ ?_ at1 ct1 hct ap cp hcp (HCd.out.keep0 ?_) (hTC.keep0 ?_)) ?_
                  · (repeat (first | (with_reducible exact Ext.refl [] _) | (with_reducible exact Ext.drew [] _) | (with_reducible assumption) | (with_reducible refine Ext.trans ?_ (Ext.drew [] _)) | (with_reducible refine Ext.trans ?_ (by assumption)) | fail "no chain"))
                  · (repeat (first | (with_reducible exact Ext.refl [] _) | (with_reducible exact Ext.drew [] _) | (with_reducible assumption) | (with_reducible refine Ext.trans ?_ (Ext.drew [] _)) | (with_reducible refine Ext.trans ?_ (by assumption)) | fail "no chain"))
                  · (repeat (first | (with_reducible exact Ext.refl [] _) | (with_reducible exact Ext.drew [] _) | (with_reducible assumption) | (with_reducible refine Ext.trans ?_ (Ext.drew [] _)) | (with_reducible refine Ext.trans ?_ (by assumption)) | fail "no chain"))
                  rintro e wz ⟨rfl, hEz⟩
                  go_wp2_with fail
                  refine hK.out _ _ (by obtain ⟨⟨f0, f1, _⟩, g0, g1, g2, g3, g4⟩ := HCells.out wz (by (repeat (first | (with_reducible exact Ext.refl [] _) | (with_reducible exact Ext.drew [] _) | (with_reducible assumption) | (with_reducible refine Ext.trans ?_ (Ext.drew [] _)) | (with_reducible refine Ext.trans ?_ (by assumption)) | fail "no chain"))); exact ⟨⟨⟨f0, f1⟩, g0, g1, g2, g3, g4⟩, Ext.cell (by (repeat (first | (with_reducible exact Ext.refl [] _) | (with_reducible exact Ext.drew [] _) | (with_reducible assumption) | (with_reducible refine Ext.trans ?_ (Ext.drew [] _)) | (with_reducible refine Ext.trans ?_ (by assumption)) | fail "no chain"))) zc (by simp)⟩) (fun hHeld => ?_)
                  clear hK K
                  (try simp only [Act.put, List.setIfInBounds_toArray, List.set_cons_zero, List.set_cons_succ])
                  refine wpAnyH_take (i := 15) (oi := { dst := some 61, op := _, type := _, pos := _, after := _, guard := _ }) (v := .tuple #[.string tx, .int .i64 0]) rfl (by kernel_rfl) (by kernel_rfl) (by kernel_rfl) (fun _ _ _ h => h) (Or.inl ⟨by rfl, ?_⟩) (by assumption) ?_
                  · intro w hSw
                    (try dsimp only at hSw)
                    first | (go_simp; done) | (go_simp; with_reducible rfl)
                  (try simp only [Act.put, List.setIfInBounds_toArray, List.set_cons_zero, List.set_cons_succ])
                  refine wpAnyH_take (i := 16) (oi := { dst := some 77, op := _, type := _, pos := _, after := _, guard := _ }) (v := .string tx) rfl (by kernel_rfl) (by kernel_rfl) (by kernel_rfl) (fun _ _ _ h => h) (Or.inl ⟨by rfl, ?_⟩) (by assumption) ?_
                  · intro w hSw
                    (try dsimp only at hSw)
                    first | (go_simp; done) | (go_simp; with_reducible rfl)
                  (try simp only [Act.put, List.setIfInBounds_toArray, List.set_cons_zero, List.set_cons_succ])
                  refine wpAnyH_take (i := 17) (oi := { dst := some 78, op := _, type := _, pos := _, after := _, guard := _ }) (v := .int .i64 0) rfl (by kernel_rfl) (by kernel_rfl) (by kernel_rfl) (fun _ _ _ h => h) (Or.inl ⟨by rfl, ?_⟩) (by assumption) ?_
                  · intro w hSw
                    (try dsimp only at hSw)
                    first | (go_simp; done) | (go_simp; with_reducible rfl)
                  (try simp only [Act.put, List.setIfInBounds_toArray, List.set_cons_zero, List.set_cons_succ])
                  refine wpAnyH_take (i := 18) (oi := { dst := some 10, op := _, type := _, pos := _, after := _, guard := _ }) (v := .string tx) rfl (by kernel_rfl) (by kernel_rfl) (by kernel_rfl) (fun _ _ _ h => h) (Or.inl ⟨by rfl, ?_⟩) (by assumption) ?_
                  · intro w hSw
                    (try dsimp only at hSw)
                    first | (go_simp; done) | (go_simp; with_reducible rfl)
                  (try simp only [Act.put, List.setIfInBounds_toArray, List.set_cons_zero, List.set_cons_succ])
                  refine wpAnyH_take (i := 19) (oi := { dst := some 11, op := _, type := _, pos := _, after := _, guard := _ }) (v := .int .i64 0) rfl (by kernel_rfl) (by kernel_rfl) (by kernel_rfl) (fun _ _ _ h => h) (Or.inl ⟨by rfl, ?_⟩) (by assumption) ?_
                  · intro w hSw
                    (try dsimp only at hSw)
                    first | (go_simp; done) | (go_simp; with_reducible rfl)
                  (try simp only [Act.put, List.setIfInBounds_toArray, List.set_cons_zero, List.set_cons_succ])
                  refine wpAnyH_done (by kernel_rfl) ?_ _
                  go_wp2_with fail
                  go_meet
                  case rel => exact ⟨rfl, rfl, (by (repeat (first | (with_reducible exact Ext.refl [] _) | (with_reducible exact Ext.drew [] _) | (with_reducible assumption) | (with_reducible refine Ext.trans ?_ (Ext.drew [] _)) | (with_reducible refine Ext.trans ?_ (by assumption)) | fail "no chain"))), (by (repeat (first | (with_reducible exact Ext.refl [] _) | (with_reducible exact Ext.drew [] _) | (with_reducible assumption) | (with_reducible refine Ext.trans ?_ (Ext.drew [] _)) | (with_reducible refine Ext.trans ?_ (by assumption)) | fail "no chain")))⟩
                · exact AllReadyH.nil
              · exact AllReadyH.nil
            · exact AllReadyH.nil
          case rest =>
            obtain ⟨rfl, rfl, hEc, hEcp⟩ := hcut
            clear KT KX HCd hEw hEwp hcp q0 q1 q2 c0 c1 c2 c3 c4
            obtain ⟨ob2, hob2⟩ : ∃ ob2 : ByteArray, ob2 = ⟨(jnT ts (txt nanB ts d) ps l (k + 1)).toArray⟩ := ⟨_, rfl⟩
            have hcat : (if k = 0 then ob else ob ++ ⟨#[32]⟩) ++ tx = ob2 := by
              rw [hob2, jnT, HPP.out, HOB.out, HTX2.out]
              by_cases h : k = 0
              · rw [if_pos h, if_pos h, List.nil_append, bytes_cat]
              · rw [if_neg h, if_neg h]
                have := bytes_cat (jnT ts (txt nanB ts d) ps l k) [32]
                rw [show (⟨#[32]⟩ : ByteArray) = ⟨[32].toArray⟩ from rfl, this, bytes_cat, List.append_assoc]
            have HOB2 := hid hob2
            have hs1 : ob.size ≤ 10000000 := by rw [HOB.out]; have := HJB.out k (by have := HLT.out; omega); simpa [ByteArray.size] using this
            have hs2 : tx.size ≤ 10000000 := by rw [HTX2.out]; have := HTB2.out k HLT.out; rw [HPP.out] at this; simpa [ByteArray.size] using this
            have HEc := hid hEc
            have HEcp := hid hEcp
            clear hob2 hEc hEcp
            by_cases hk0 : k = 0
            · subst hk0
              rw [if_pos rfl] at hcat
              go_wp2_with fail
              go_roundw
              case rel => exact ⟨1, rfl, HLT.out, by rw [HOB2.out], HEc.out, HEcp.out⟩
              case measure => have := HLT.out; simp [intOf]; omega
            · rw [if_neg hk0] at hcat
              have hkp : (0 : Int) < (k : Int) := by omega
              go_wp2_with fail
              go_roundw
              case rel => exact ⟨k + 1, by go_num, HLT.out, by rw [HOB2.out], HEc.out, HEcp.out⟩
              case measure => have := HLT.out; simp [intOf]; omega
        · obtain rfl : k = ps.length := by omega
          have hs1 : ob.size ≤ 10000000 := by rw [HOB.out]; have := HJB.out ps.length (by omega); simpa [ByteArray.size] using this
          have HEr := hid hEr
          obtain ⟨⟨q0, q1, q2⟩, c0, c1, c2, c3, c4⟩ := HCells.out wr hEpr
          have hsbE : sb = ⟨(opn kd :: (jnT ts (txt nanB ts d) ps l ps.length ++ [cls kd])).toArray⟩ := by rw [HSB.out, HTX.out]
          have hcat : ∀ x y : UInt8, ((⟨#[x]⟩ : ByteArray) ++ ob) ++ (⟨#[y]⟩ : ByteArray) = ⟨(x :: (jnT ts (txt nanB ts d) ps l ps.length ++ [y])).toArray⟩ := fun x y => by
            rw [HOB.out]
            have e1 := bytes_cat [x] (jnT ts (txt nanB ts d) ps l ps.length)
            have e2 := bytes_cat ([x] ++ jnT ts (txt nanB ts d) ps l ps.length) [y]
            show ((⟨[x].toArray⟩ : ByteArray) ++ _) ++ (⟨[y].toArray⟩ : ByteArray) = _
            rw [e1, e2]
            simp
          have hkn : ¬ ((ps.length : Int) < (ps.length : Int)) := by omega
          rcases hk89 with h8 | h9
          · subst h8
            have h1 : ((⟨#[123]⟩ : ByteArray) ++ ob) ++ (⟨#[125]⟩ : ByteArray) = sb := by rw [hcat, hsbE]; rfl
            clear hcat hsbE hlt hk hEr hEpr
            go_wp2_with fail
            go_ret
            exact ⟨rfl, HEr.out⟩
          · subst h9
            have h1 : ((⟨#[91]⟩ : ByteArray) ++ ob) ++ (⟨#[93]⟩ : ByteArray) = sb := by rw [hcat, hsbE]; rfl
            obtain ⟨nb, hnb⟩ : ∃ nb : ByteArray, ((⟨#[123]⟩ : ByteArray) ++ ob) ++ (⟨#[125]⟩ : ByteArray) = nb := ⟨_, rfl⟩
            have hne : (sb.toList == nb.toList) = false := by
              simp only [beq_eq_false_iff_ne, ne_eq]
              intro e
              rw [ByteArray.toList_eq, ByteArray.toList_eq, ← hnb, hcat, hsbE] at e
              simp [opn] at e
            clear hcat hsbE hlt hk hEr hEpr
            go_wp2_with fail
            go_ret
            exact ⟨rfl, HEr.out⟩
  · have hTV : txtV ts d t l = ⟨#[]⟩ := by unfold txtV; rw [if_neg hv]
    rw [hTV]
    have hne : (vchk ts d t l != 0) = true := by simpa using hv
    have HEa := hid hEa
    generalize vchk ts d t l = er at *
    clear hTV hv hEa
    go_wp2_with fail
    go_ret
    exact ⟨rfl, HEa.out⟩
end Go.Proofs.YtfabhhmeanpmhaaDoor
