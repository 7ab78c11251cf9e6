/-
  The program's Text of every value; no statement is proved here.
-/
import Derived.Test.YtfabhhmeanpmhaaDoorTxD
namespace Go.Proofs.YtfabhhmeanpmhaaDoor
open Go.RowKit

theorem conv_any {w0 w : World} {v : Value} {L : List UInt8} (h : YO w0 w v L) (hL : 1 ≤ L.length) : (convert 56 9 v).run Tryd.prog w = .ok (.string ⟨L.toArray⟩) w := by
  have hcell := fun a c (e : v = .slice a L.length c) => own_vs (e ▸ h)
  rcases h.2 with ⟨_, h1⟩ | ⟨g, cap, cur, rfl, _, hg, _⟩
  · omega
  · refine run_convert_bytes_back (P := Tryd.prog) w 56 9 5 ⟨g, 0, none⟩ cap L Tryd.underlying56 und5 und9 (fun j hj => ?_)
    rcases hcell _ _ rfl with q | ⟨b, o, hb, hc⟩
    · have := congrArg List.length q
      rw [Lib.byteCells_length] at this
      rw [List.length_nil] at this; omega
    · cases hb
      have := hc j (by rw [Lib.byteCells_length]; exact hj)
      rw [Addr.add_lit, this]
      simp [Lib.byteCells, hj]

def TxPost' (w : World) (s : ByteArray) (err : Int) (e : Ending) (w' : World) : Prop := e = .returned (.tuple #[.string s, .int .i64 err]) ∧ Ext [] w w'
/-- What Text answers. -/
noncomputable def txtV (ts : List Ty) (d : Nat) (t : Int) (l : List Cl) : ByteArray := if vchk ts d t l = 0 then ⟨(txt nanB ts d t l).toArray⟩ else ⟨#[]⟩

set_option maxRecDepth 100000 in
set_option maxHeartbeats 2000000 in
theorem text_any (ts : List Ty) (ta : Option Addr) (tn tc : Nat) (htn : ts.length = tn) (hc : tn ≤ tc) (d : Nat) (t : Int) (a : Option Addr) (l : List Cl) (n c : Nat) (w : World) (hC : Cs d w a l) (hn : l.length = n) (hnc : n ≤ c) (hT : Tab w ta ts) (hG : Gl w)
    (hP : Lib.TabBelow Tryd.prog w.heap.size w "internal/strconv.uint64pow10" .u64 Lib.pow10Tab) :
    Calls Tryd.prog 13 #[.slice ta tn tc, .int .i64 t, .slice a n c] w (TxPost' w (txtV ts d t l) (vchk ts d t l)) := by
  have hE := Ext.alloc [] w (.cells #[.slice ta tn tc] 22)
  have hb0 := heap_alloc_new w (.cells #[.slice ta tn tc] 22)
  have K := pcheck_any ts ta tn tc htn hc d t a l n c _ (hC.keep0 hE) hn (hT.keep0 hE) (hG.keep0 hE)
  by_cases hv : vchk ts d t l = 0
  · have hTV : txtV ts d t l = ⟨(txt nanB ts d t l).toArray⟩ := by unfold txtV; rw [if_pos hv]
    rw [hTV]
    obtain ⟨hb1, hb2⟩ := vchk_zero hv
    obtain ⟨hS, ht0, ht1⟩ := bad_zero hb1
    obtain ⟨q, rfl⟩ : ∃ q : Nat, t = q := ⟨t.toNat, by omega⟩
    have hlen := okv_len hb2.2
    have hwid : wid ts q = n := by unfold wid; omega
    have h64 := hS.1
    have htot : totL l ≤ 256 := by have := hb2.1; unfold siz at this; omega
    have hll := totL_len l
    have hpot : ([] : List UInt8).length + pot q (l.take (wid ts q)) ≤ 20000000 := by
      rw [hwid, ← hn, List.take_length]
      unfold pot
      have h1 : 3 * (q + 1) * l.length ≤ 192 * 256 := Nat.mul_le_mul (by omega) (by omega)
      simp only [List.length_nil]
      omega
    obtain ⟨d', rfl⟩ : ∃ d', d = d' + 1 := by
      cases d with
      | zero =>
        obtain rfl : l = [] := hC
        have := wid_pos hS (t := q) (by omega)
        simp at hn; omega
      | succ d => exact ⟨d, rfl⟩
    have hpos := txt_pos (nan := nanB) hS (d := d') (t := q) (by omega) hb2.2
    rw [hv] at K ⊢
    have KT := fun bb fb (hbb : w.heap.size ≤ bb) u hu => tell_any w ts ta tn tc w.heap.size bb fb htn hS hT hbb hP (d' + 1) (q + 1) q (by omega) (by omega) a l n c hC hn hnc (by omega) (by rw [hwid, ← hn, List.take_length]; exact hb2.2) u (.slice none 0 0) [] hu hpot
    rw [hwid, List.take_of_length_le (by omega), List.nil_append] at KT
    have HE := hid hE
    have HB0 := hid hb0
    have HKT := hid KT
    generalize txt nanB ts (d' + 1) q l = X at *
    clear hC hT hG hE hb0 hP hTV hb1 hb2 hS hlen hwid htot hll hpot KT hv h64
    go_enter Tryd.func13, Tryd.ntmps13
    go_upto_region 7 with (first | (go_at_call 9; refine K.mono ?_; clear K; rintro e w1 ⟨rfl, hE1⟩))
    have hE2 := (Ext.alloc [] w1 (.cells #[.slice none 0 0] 56)).trans (Ext.alloc [] _ (.cells #[.func (.func 31) #[] #[.pointer (some ⟨w.heap.size, 0, none⟩), .pointer (some ⟨w1.heap.size, 0, none⟩), .pointer (some ⟨w1.heap.size + 1, 0, none⟩)]] 57))
    have hb1 := heap_alloc2_old w1 (.cells #[.slice none 0 0] 56) (.cells #[.func (.func 31) #[] #[.pointer (some ⟨w.heap.size, 0, none⟩), .pointer (some ⟨w1.heap.size, 0, none⟩), .pointer (some ⟨w1.heap.size + 1, 0, none⟩)]] 57)
    have hb2 := heap_alloc2_new w1 (.cells #[.slice none 0 0] 56) (.cells #[.func (.func 31) #[] #[.pointer (some ⟨w.heap.size, 0, none⟩), .pointer (some ⟨w1.heap.size, 0, none⟩), .pointer (some ⟨w1.heap.size + 1, 0, none⟩)]] 57)
    have hsz := hE1.size
    generalize (w1.alloc (.cells #[.slice none 0 0] 56)).alloc (.cells #[.func (.func 31) #[] #[.pointer (some ⟨w.heap.size, 0, none⟩), .pointer (some ⟨w1.heap.size, 0, none⟩), .pointer (some ⟨w1.heap.size + 1, 0, none⟩)]] 57) = w2 at *
    have hE12 := (HE.out.trans hE1).trans hE2
    have hb3 := (hE1.trans hE2).keep HB0.out (by simp)
    have hz : w.heap.size ≤ w1.heap.size := by simp at hsz; omega
    have hst : St w ta tn tc w.heap.size w1.heap.size (w1.heap.size + 1) w2 (.slice none 0 0) [] := ⟨hE12, hb3, hb2, hb1, own_nil _ _ _ _⟩
    have K2 := HKT.out _ _ hz _ hst
    have z8 := hst.cf
    unfold tfn at z8
    clear hE1 hE2 hE12 hb1 hb2 hb3 hst HKT hsz
    go_wp2_with fail
    refine K2.mono ?_
    clear K2 z8
    rintro e w4 ⟨ra, rc, bv, rfl, _, _, h4, _⟩
    have cb := h4.cb
    have hcv := conv_any h4.own hpos
    have HX := hid h4.ext
    obtain ⟨a4, c4, rfl, _⟩ := own_slice h4.own
    clear h4
    generalize X.length = m4 at *
    go_wp2_with fail
    go_ret2
    exact ⟨rfl, HX.out⟩
  · have hTV : txtV ts d t l = ⟨#[]⟩ := by unfold txtV; rw [if_neg hv]
    rw [hTV]
    have HE := hid hE
    have hne : (vchk ts d t l != 0) = true := by simpa using hv
    generalize vchk ts d t l = er at *
    clear hC hT hG hE hb0 hP hTV hv
    go_enter Tryd.func13, Tryd.ntmps13
    go_wp2_with (go_at_call 9; refine K.mono ?_; clear K; rintro e w1 ⟨rfl, hE1⟩)
    go_ret2
    exact ⟨rfl, HE.out.trans hE1⟩

/-- The library's powers of ten. -/
def Tp (w : World) : Prop := Lib.TabIs Tryd.prog w "internal/strconv.uint64pow10" .u64 Lib.pow10Tab
theorem Tp.keep0 {w w' : World} (h : Tp w) (e : Ext [] w w') : Tp w' := Lib.tabBelow_of_tabIs h w' e.below

end Go.Proofs.YtfabhhmeanpmhaaDoor
