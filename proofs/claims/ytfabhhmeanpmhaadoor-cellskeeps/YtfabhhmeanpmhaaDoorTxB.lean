/-
  How the program writes the text of a cell, further; no statement is proved here.
-/
import Derived.Test.YtfabhhmeanpmhaaDoorTxA
import Derived.Laws.Externs
namespace Go.Proofs.YtfabhhmeanpmhaaDoor
open Go.RowKit

theorem frombits_run (n : Int) (w : World) : (callFunc 73 #[.int .u64 n]).run Tryd.prog w = .ok (.value (.float .f64 n.toNat)) w := by
  rw [run_callFunc_extern (e := Extern.MathFloatBits.float64frombits) Tryd.func73 (by kernel_rfl) (by kernel_rfl) (by kernel_rfl) (by rfl)]
  rfl
theorem fneq_run (x y : Nat) (w : World) : (binOp .neq 103 (.float .f64 x) (.float .f64 y)).run Tryd.prog w = .ok (.bool (!Op.floatEq .f64 x y)) w := by
  simp only [binOp]
  simp [Op.floatCmp, Op.floatEq, bne]
theorem isnan_any (x : Nat) (w : World) : Calls Tryd.prog 72 #[.float .f64 x] w (fun e w' => e = .returned (.bool (!Op.floatEq .f64 x x)) ∧ w' = w) := by
  have h := fneq_run x x
  generalize Op.floatEq .f64 x x = r at *
  go_enter Tryd.func72, Tryd.ntmps72
  go_wp2_with fail
  go_ret
  exact ⟨rfl, rfl⟩
/-- Which words are no numbers. -/
def nanB (n : Int) : Bool := !Op.floatEq .f64 n.toNat n.toNat

theorem hexB_succ (n k : Nat) : hexB n (k + 1) = hexB n k ++ two (n / 2 ^ (56 - 8 * k) % 256) := by
  unfold hexB; rw [List.range_succ, List.flatMap_append]; simp

set_option maxRecDepth 100000 in
set_option maxHeartbeats 1000000 in
theorem float_any (w0 w : World) (v : Value) (L : List UInt8) (n : Int) (hn : 0 ≤ n ∧ n < 18446744073709551616) (hO : YO w0 w v L) (hE : Ext [] w0 w) (hl : L.length ≤ 40000000) : Calls Tryd.prog 56 #[v, .int .u64 n] w (YPost w0 w (L ++ (if nanB n then [110, 97, 110] else hexB n.toNat 8))) := by
  have h1 := frombits_run n
  have K := isnan_any n.toNat w
  have e : (!Op.floatEq .f64 n.toNat n.toNat) = nanB n := rfl
  rw [e] at K
  clear e
  cases hb : nanB n
  · rw [hb] at K
    obtain ⟨N, rfl⟩ : ∃ N : Nat, n = N := ⟨n.toNat, by omega⟩
    simp only [Int.toNat_natCast] at *
    have HO := hid hO
    have HE := hid hE
    clear hb hO hE
    go_enter Tryd.func56, Tryd.ntmps56
    go_wp2_with (first | (go_at_call 72; refine met K ?_) | fail)
    clear h1 K
    go_loopw [0, 5] (fun lv q wr => ∃ k : Nat, q = .int .i64 (56 - 8 * (k : Int)) ∧ k ≤ 8 ∧ YO w0 wr lv (L ++ hexB N k) ∧ Ext [] w0 wr ∧ Fy w wr) (fun _ q _ => (intOf q + 8).toNat)
    case atStart => exact ⟨0, rfl, by omega, by simpa [hexB] using HO.out, HE.out, Fy.refl _⟩
    case round =>
      obtain ⟨k, rfl, hk, hOk, hEk, hFk⟩ := hrel
      have hln := hexB_len N k
      by_cases hk8 : k < 8
      · have hs := hexB_succ N k
        have K := byte2_any w0 wr _ (L ++ hexB N k) (N / 2 ^ (56 - 8 * k) % 256) (Nat.mod_lt _ (by omega)) hOk hEk (by rw [List.length_append, hln]; omega)
        have hge : (0 : Int) ≤ 56 - 8 * (k : Int) := by omega
        have hsh : (N : Int) / 2 ^ (56 - 8 * k) % 256 = ((N / 2 ^ (56 - 8 * k) % 256 : Nat) : Int) := by
          have : (N : Int) / 2 ^ (56 - 8 * k) = ((N / 2 ^ (56 - 8 * k) : Nat) : Int) := by norm_cast
          rw [this]
          generalize N / 2 ^ (56 - 8 * k) = X
          omega
        have HFk := hid hFk
        rw [List.append_assoc, ← hs] at K
        generalize N / 2 ^ (56 - 8 * k) % 256 = X at *
        clear hs hOk hEk hFk
        go_wp2_with fail
        refine K.mono ?_
        rintro e w1 ⟨v', rfl, hO1, hE1, hF1⟩
        go_wp2_with fail
        go_roundw
        case rel => exact ⟨k + 1, by go_num, by omega, hO1, hE1, HFk.out.trans hF1⟩
        case measure => simp [intOf]; omega
      · obtain rfl : k = 8 := by omega
        go_wp2
        go_ret
        exact ⟨_, rfl, hOk, hEk, hFk⟩
  · rw [hb] at K
    obtain ⟨v', w', hr, g1, g2, g3⟩ := hO.str hE ⟨#[110, 97, 110]⟩ (by have : (⟨#[110, 97, 110]⟩ : ByteArray).size = 3 := rfl; omega)
    go_enter Tryd.func56, Tryd.ntmps56
    go_wp2_with (first | (go_at_call 72; refine met K ?_) | (at_builtin; refine wpList_append_run2 rfl _ _ 56 9 rfl _ _ _ rfl rfl hr ?_) | fail)
    go_ret
    exact ⟨_, rfl, g1, g2, g3⟩

theorem qb_plain {c : UInt8} (h : plainB c = true) : qb c = [c] := by unfold qb; rw [if_pos h]
theorem qb_not {c : UInt8} (h : ¬ plainB c = true) : qb c = 92 :: two c.toNat := by unfold qb; rw [if_neg h]

set_option maxRecDepth 100000 in
set_option maxHeartbeats 2000000 in
theorem quoted_any (w0 w : World) (v : Value) (L : List UInt8) (s : ByteArray) (hs : s.size ≤ 4096) (hO : YO w0 w v L) (hE : Ext [] w0 w) (hl : L.length ≤ 40000000) : Calls Tryd.prog 57 #[v, .string s] w (YPost w0 w (L ++ quo s.data.toList)) := by
  obtain ⟨v1, w1, hr1, hO1, hE1, hF1⟩ := hO.app1 hE 39 39 rfl (by omega)
  have HO1 := hid hO1
  have HE1 := hid hE1
  have HF1 := hid hF1
  have hsz : s.data.toList.length = s.size := Array.length_toList
  clear hO hE hO1 hE1 hF1
  go_enter Tryd.func57, Tryd.ntmps57
  go_wp2_with (at_builtin; refine wpList_append_run2 rfl _ _ 56 56 rfl _ _ _ rfl rfl hr1 ?_)
  clear hr1
  go_loopw [0, 12] (fun lv q wr => ∃ k : Nat, q = .int .i64 k ∧ k ≤ s.size ∧ YO w0 wr lv (L ++ 39 :: (s.data.toList.take k).flatMap qb) ∧ Ext [] w0 wr ∧ Fy w wr) (fun _ q _ => (s.size - (intOf q)).toNat)
  case atStart => exact ⟨0, rfl, by omega, by simpa using HO1.out, HE1.out, HF1.out⟩
  case round =>
    obtain ⟨k, rfl, hk, hOk, hEk, hFk⟩ := hrel
    have hlen : (L ++ 39 :: (s.data.toList.take k).flatMap qb).length ≤ L.length + 1 + 3 * 4096 := by
      have := quo_len (s.data.toList.take k)
      simp only [quo, List.length_cons, List.length_append, List.length_nil, List.length_take] at this ⊢
      omega
    have HFk := hid hFk
    by_cases hlt : k < s.size
    · have hc := s[k].toNat_lt
      have hstep : (s.data.toList.take (k + 1)).flatMap qb = (s.data.toList.take k).flatMap qb ++ qb s[k] := by
        rw [List.take_succ_eq_append_getElem (by omega), List.flatMap_append]
        have e : s.data.toList[k]'(by omega) = s[k] := by rw [Array.getElem_toList]; rfl
        rw [e]; simp
      have HST : Hid (∀ M, M = qb s[k] → L ++ 39 :: (s.data.toList.take k).flatMap qb ++ M = L ++ 39 :: (s.data.toList.take (k + 1)).flatMap qb) := fun M hM => by rw [hM, hstep]; simp
      clear hstep
      by_cases hp : plainB s[k] = true
      · have hq := qb_plain hp
        rw [hq] at HST
        unfold plainB at hp
        simp only [Bool.and_eq_true, decide_eq_true_eq] at hp
        obtain ⟨p1, p2, p3, p4⟩ := hp
        obtain ⟨v2, w2, hr2, hO2, hE2, hF2⟩ := hOk.app1 hEk s[k] (s[k].toNat : Int) rfl (by omega)
        rw [HST.out _ rfl] at hO2
        have HF2 := hid (HFk.out.trans hF2)
        clear HST hOk hEk hFk hF2 hlen hq
        have q1 : (32 : Int) ≤ (s[k].toNat : Int) := by omega
        have q2 : (s[k].toNat : Int) ≤ 126 := by omega
        have q3 : ((s[k].toNat : Int) != 39) = true := by simp only [bne_iff_ne]; omega
        have q4 : ((s[k].toNat : Int) != 92) = true := by simp only [bne_iff_ne]; omega
        clear p1 p2 p3 p4
        go_wp2_with (at_builtin; refine wpList_append_run2 rfl _ _ 56 56 rfl _ _ _ rfl rfl hr2 ?_)
        go_roundw
        case rel => exact ⟨k + 1, by go_num, by omega, hO2, hE2, HF2.out⟩
        case measure => simp [intOf]; omega
      · have hq := qb_not hp
        rw [hq] at HST
        obtain ⟨v2, w2, hr2, hO2, hE2, hF2⟩ := hOk.app1 hEk 92 92 rfl (by omega)
        have K := byte2_any w0 w2 v2 _ s[k].toNat hc hO2 hE2 (by rw [List.length_append]; simp only [List.length_cons, List.length_nil]; omega)
        rw [List.append_assoc, List.cons_append, List.nil_append, HST.out _ rfl] at K
        have HF2 := hid (HFk.out.trans hF2)
        unfold plainB at hp
        have hcase : (s[k].toNat < 32) ∨ (32 ≤ s[k].toNat ∧ 126 < s[k].toNat) ∨ (32 ≤ s[k].toNat ∧ s[k].toNat ≤ 126 ∧ s[k].toNat = 39) ∨ (32 ≤ s[k].toNat ∧ s[k].toNat ≤ 126 ∧ s[k].toNat ≠ 39 ∧ s[k].toNat = 92) := by
          simp only [Bool.and_eq_true, decide_eq_true_eq] at hp
          omega
        clear HST hOk hEk hFk hO2 hE2 hF2 hlen hq hp
        rcases hcase with p1 | ⟨p1, p2⟩ | ⟨p1, p2, p3⟩ | ⟨p1, p2, p3, p4⟩
        · have q1 : ¬ ((32 : Int) ≤ (s[k].toNat : Int)) := by omega
          clear p1
          go_wp2_with (first | (at_builtin; refine wpList_append_run2 rfl _ _ 56 56 rfl _ _ _ rfl rfl hr2 ?_) | (go_at_call 74; refine K.mono ?_; rintro e w3 ⟨v3, rfl, hO3, hE3, hF3⟩))
          go_roundw
          case rel => exact ⟨k + 1, by go_num, by omega, hO3, hE3, HF2.out.trans hF3⟩
          case measure => simp [intOf]; omega
        · have q1 : (32 : Int) ≤ (s[k].toNat : Int) := by omega
          have q2 : ¬ ((s[k].toNat : Int) ≤ 126) := by omega
          clear p1 p2
          go_wp2_with (first | (at_builtin; refine wpList_append_run2 rfl _ _ 56 56 rfl _ _ _ rfl rfl hr2 ?_) | (go_at_call 74; refine K.mono ?_; rintro e w3 ⟨v3, rfl, hO3, hE3, hF3⟩))
          go_roundw
          case rel => exact ⟨k + 1, by go_num, by omega, hO3, hE3, HF2.out.trans hF3⟩
          case measure => simp [intOf]; omega
        · have q1 : (32 : Int) ≤ (s[k].toNat : Int) := by omega
          have q2 : (s[k].toNat : Int) ≤ 126 := by omega
          have q3 : ((s[k].toNat : Int) != 39) = false := by simp only [bne_eq_false_iff_eq]; omega
          clear p1 p2 p3
          go_wp2_with (first | (at_builtin; refine wpList_append_run2 rfl _ _ 56 56 rfl _ _ _ rfl rfl hr2 ?_) | (go_at_call 74; refine K.mono ?_; rintro e w3 ⟨v3, rfl, hO3, hE3, hF3⟩))
          go_roundw
          case rel => exact ⟨k + 1, by go_num, by omega, hO3, hE3, HF2.out.trans hF3⟩
          case measure => simp [intOf]; omega
        · have q1 : (32 : Int) ≤ (s[k].toNat : Int) := by omega
          have q2 : (s[k].toNat : Int) ≤ 126 := by omega
          have q3 : ((s[k].toNat : Int) != 39) = true := by simp only [bne_iff_ne]; omega
          have q4 : ((s[k].toNat : Int) != 92) = false := by simp only [bne_eq_false_iff_eq]; omega
          clear p1 p2 p3 p4
          go_wp2_with (first | (at_builtin; refine wpList_append_run2 rfl _ _ 56 56 rfl _ _ _ rfl rfl hr2 ?_) | (go_at_call 74; refine K.mono ?_; rintro e w3 ⟨v3, rfl, hO3, hE3, hF3⟩))
          go_roundw
          case rel => exact ⟨k + 1, by go_num, by omega, hO3, hE3, HF2.out.trans hF3⟩
          case measure => simp [intOf]; omega
    · obtain rfl : k = s.size := by omega
      obtain ⟨v2, w2, hr2, hO2, hE2, hF2⟩ := hOk.app1 hEk 39 39 rfl (by omega)
      have HFin : Hid (YPost w0 w (L ++ quo s.data.toList) (.returned v2) w2) := by
        refine ⟨_, rfl, ?_, hE2, HFk.out.trans hF2⟩
        have e : s.data.toList.take s.size = s.data.toList := List.take_of_length_le (by omega)
        rw [e] at hO2
        unfold quo
        simpa using hO2
      clear hOk hEk hFk hO2 hE2 hF2
      go_wp2_with (at_builtin; refine wpList_append_run2 rfl _ _ 56 56 rfl _ _ _ rfl rfl hr2 ?_)
      go_ret
      exact HFin.out

theorem below_ext0 {w0 w w' : World} (hE : Ext [] w0 w) (h : Below w0.heap.size w w') : Ext [] w0 w' :=
  ⟨h.os.trans hE.os, h.tape.trans hE.tape, h.output.trans hE.output, Nat.le_trans hE.size h.size, fun k hk _ => (h.block k hk).trans (hE.block k hk (by simp))⟩
theorem itoa_any (w0 w : World) (v : Value) (L : List UInt8) (i : Int) (h0 : -9223372036854775808 ≤ i) (h1 : i ≤ 9223372036854775807) (hO : YO w0 w v L) (hE : Ext [] w0 w) (hl : L.length ≤ 50000000)
    (hT : Lib.TabBelow Tryd.prog w0.heap.size w0 "internal/strconv.uint64pow10" .u64 Lib.pow10Tab) : Calls Tryd.prog 35 #[v, .int .i64 i, .int .i64 10] w (YPost w0 w (L ++ Lib.itoa i)) := by
  refine (Tryd.strconv_AppendInt_10 w0.heap.size L.length i h0 h1 v _ w hO hE.size (by omega) (hT.on hE.below)).mono ?_
  rintro e w' ⟨v', rfl, ho, hb, hk⟩
  refine ⟨v', rfl, ?_, below_ext0 hE hb, fun k cs T fz hT' hc => hk k _ hc (by simp) (fun c fz' he => by cases he; exact hT' rfl)⟩
  unfold YO
  rw [List.length_append, bytes_app]
  exact ho

set_option maxRecDepth 100000 in
set_option maxHeartbeats 1000000 in
theorem acell_any (w0 w : World) (v : Value) (L : List UInt8) (k : Int) (c : Cl) (ba : Option Addr) (bl bc : Nat) (hk : Leaf k) (hr : Rg c) (hf : Fits k c.n c.s c.t bl) (hO : YO w0 w v L) (hE : Ext [] w0 w) (hl : L.length ≤ 40000000)
    (hT : Lib.TabBelow Tryd.prog w0.heap.size w0 "internal/strconv.uint64pow10" .u64 Lib.pow10Tab) :
    Calls Tryd.prog 34 #[v, .int .i64 k, .agg #[.int .u64 c.n, .string c.s, .int .i64 c.t, .slice ba bl bc]] w (YPost w0 w (L ++ ctx nanB k c)) := by
  have hE1 := Ext.alloc [] w (.cells #[.int .u64 c.n, .string c.s, .int .i64 c.t, .slice ba bl bc] 49)
  have hO1 := hO.keep0 hE1
  have hE2 := hE.trans hE1
  have HF : Hid (Fy w (w.alloc (.cells #[.int .u64 c.n, .string c.s, .int .i64 c.t, .slice ba bl bc] 49))) := Fy.of hE1
  have hn := hr.1
  unfold ctx
  obtain h1 | h1 | h1 | h1 | h1 : k = 1 ∨ k = 2 ∨ k = 3 ∨ k = 4 ∨ (k ≠ 1 ∧ k ≠ 2 ∧ k ≠ 3 ∧ k ≠ 4) := by omega
  · subst h1
    have K := bool_any w0 _ v L (c.n == 1) hO1 hE2 (by omega)
    have e : (if (c.n == 1) = true then [116, 114, 117, 101] else [102, 97, 108, 115, 101] : List UInt8) = (if c.n = 1 then [116, 114, 117, 101] else [102, 97, 108, 115, 101]) := by
      by_cases h : c.n = 1 <;> simp [h]
    rw [e] at K
    rw [if_pos rfl]
    generalize (if c.n = 1 then [116, 114, 117, 101] else [102, 97, 108, 115, 101] : List UInt8) = M at *
    clear hO1 hE2 hE1 hO hE e
    go_enter Tryd.func34, Tryd.ntmps34
    go_wp2_with fail
    refine K.mono ?_
    rintro e w1 ⟨v', rfl, g1, g2, g3⟩
    go_wp2_with fail
    go_ret
    exact ⟨_, rfl, g1, g2, HF.out.trans g3⟩
  · subst h1
    have hw := wrap_rng c.n
    have K := itoa_any w0 _ v L (IntKind.i64.wrap c.n) hw.1 hw.2 hO1 hE2 (by omega) hT
    rw [if_neg (by omega), if_pos rfl]
    clear hO1 hE2 hE1 hO hE hw
    generalize Lib.itoa (IntKind.i64.wrap c.n) = M at *
    rw [IntWalk.i64_left] at K
    go_enter Tryd.func34, Tryd.ntmps34
    go_wp2_with fail
    refine K.mono ?_
    rintro e w1 ⟨v', rfl, g1, g2, g3⟩
    go_wp2_with fail
    go_ret
    exact ⟨_, rfl, g1, g2, HF.out.trans g3⟩
  · subst h1
    have K := float_any w0 _ v L c.n hn hO1 hE2 (by omega)
    rw [if_neg (by omega), if_neg (by omega), if_pos rfl]
    clear hO1 hE2 hE1 hO hE
    generalize (if nanB c.n = true then [110, 97, 110] else hexB c.n.toNat 8 : List UInt8) = M at *
    go_enter Tryd.func34, Tryd.ntmps34
    go_wp2_with fail
    refine K.mono ?_
    rintro e w1 ⟨v', rfl, g1, g2, g3⟩
    go_wp2_with fail
    go_ret
    exact ⟨_, rfl, g1, g2, HF.out.trans g3⟩
  · subst h1
    have K := quoted_any w0 _ v L c.s (hf.2.2.2.2.1 rfl).2 hO1 hE2 (by omega)
    rw [if_neg (by omega), if_neg (by omega), if_neg (by omega), if_pos rfl]
    clear hO1 hE2 hE1 hO hE
    generalize quo c.s.data.toList = M at *
    go_enter Tryd.func34, Tryd.ntmps34
    go_wp2_with fail
    refine K.mono ?_
    rintro e w1 ⟨v', rfl, g1, g2, g3⟩
    go_wp2_with fail
    go_ret
    exact ⟨_, rfl, g1, g2, HF.out.trans g3⟩
  · obtain ⟨k1, k2, k3, k4⟩ := h1
    rw [if_neg k1, if_neg k2, if_neg k3, if_neg k4]
    have b1 : (k == 1) = false := by simpa using k1
    have b2 : (k == 2) = false := by simpa using k2
    have b3 : (k == 3) = false := by simpa using k3
    have b4 : (k == 4) = false := by simpa using k4
    have K := name_any k c.n (w.alloc (.cells #[.int .u64 c.n, .string c.s, .int .i64 c.t, .slice ba bl bc] 49))
    have hnl := (nameB_len k c.n).1
    obtain ⟨v', w', hr2, g1, g2, g3⟩ := hO1.str hE2 ⟨(nameB k c.n).toArray⟩ (by have : (⟨(nameB k c.n).toArray⟩ : ByteArray).size = (nameB k c.n).length := by simp [ByteArray.size]
                                                                                omega)
    simp only at g1
    clear hO1 hE2 hE1 hO hE k1 k2 k3 k4 hnl
    generalize nameB k c.n = M at *
    go_enter Tryd.func34, Tryd.ntmps34
    go_wp2_with (first | (go_at_call 58; refine met K ?_) | (at_builtin; refine wpList_append_run2 rfl _ _ 56 9 rfl _ _ _ rfl rfl hr2 ?_))
    go_ret
    exact ⟨_, rfl, g1, g2, HF.out.trans g3⟩
end Go.Proofs.YtfabhhmeanpmhaaDoor
