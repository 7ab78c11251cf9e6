/-
  The program's ways of whole numbers; no statement is proved here.
-/
import Derived.Test.YtdedehfeekpioaaBase
import Derived.Test.YtdedehfeekpioaaMath
namespace Go.Proofs.Ytdedehfeekpioaa
open Go.RowKit

def b2u (b : Bool) : Int := if b then 1 else 0
theorem truth_any (b : Bool) (w : World) : Calls Try.prog 21 #[.bool b] w (fun e w' => e = .returned (.int .u64 (b2u b)) ∧ w' = w) := by
  cases b
  · go_enter Try.func21, Try.ntmps21
    go_wp2_with fail
    go_ret
    exact ⟨rfl, rfl⟩
  · go_enter Try.func21, Try.ntmps21
    go_wp2_with fail
    go_ret
    exact ⟨rfl, rfl⟩
theorem yes_any (b : Bool) (w : World) : Calls Try.prog 23 #[.bool b] w (fun e w' => e = .returned (.int .u64 (b2u b)) ∧ w' = w) := by
  cases b
  · go_enter Try.func23, Try.ntmps23
    go_wp2_with fail
    go_ret
    exact ⟨rfl, rfl⟩
  · go_enter Try.func23, Try.ntmps23
    go_wp2_with fail
    go_ret
    exact ⟨rfl, rfl⟩


theorem w64 (n : Int) : wrap64 n = sg (um n) := by rw [← wrapS]; exact (IntWalk.i64_left n).symm
theorem bits_u (op : BinOp) (x : BitVec 64) (a b : Int) (h : (match op with | .and => BitVec.ofInt 64 a &&& BitVec.ofInt 64 b | .or => BitVec.ofInt 64 a ||| BitVec.ofInt 64 b | .xor => BitVec.ofInt 64 a ^^^ BitVec.ofInt 64 b | _ => 0) = x) (ho : op = .and ∨ op = .or ∨ op = .xor) : bits op .u64 a b = x.toNat := by
  have hU := nat_U x
  rcases ho with rfl | rfl | rfl
  · show IntKind.wrap .u64 ((BitVec.ofInt 64 a &&& BitVec.ofInt 64 b).toNat : Int) = _
    subst h; rw [wrapU]; exact um_id hU
  · show IntKind.wrap .u64 ((BitVec.ofInt 64 a ||| BitVec.ofInt 64 b).toNat : Int) = _
    subst h; rw [wrapU]; exact um_id hU
  · show IntKind.wrap .u64 ((BitVec.ofInt 64 a ^^^ BitVec.ofInt 64 b).toNat : Int) = _
    subst h; rw [wrapU]; exact um_id hU
theorem bits_s (op : BinOp) (x : BitVec 64) (a b : Int) (h : (match op with | .and => BitVec.ofInt 64 a &&& BitVec.ofInt 64 b | .or => BitVec.ofInt 64 a ||| BitVec.ofInt 64 b | .xor => BitVec.ofInt 64 a ^^^ BitVec.ofInt 64 b | _ => 0) = x) (ho : op = .and ∨ op = .or ∨ op = .xor) : um (bits op .i64 a b) = x.toNat := by
  have hU := nat_U x
  rcases ho with rfl | rfl | rfl
  · show um (IntKind.wrap .i64 ((BitVec.ofInt 64 a &&& BitVec.ofInt 64 b).toNat : Int)) = _
    subst h; rw [wrapS, um_sg, um_um]; exact um_id hU
  · show um (IntKind.wrap .i64 ((BitVec.ofInt 64 a ||| BitVec.ofInt 64 b).toNat : Int)) = _
    subst h; rw [wrapS, um_sg, um_um]; exact um_id hU
  · show um (IntKind.wrap .i64 ((BitVec.ofInt 64 a ^^^ BitVec.ofInt 64 b).toNat : Int)) = _
    subst h; rw [wrapS, um_sg, um_um]; exact um_id hU
theorem cnt_u {b : Int} (hb : U b) : bits BinOp.and IntKind.u64 (IntKind.u64.wrap (sg b)) 63 = b % 64 := by
  rw [wrapU, um_sg, um_id hb, bits_u .and _ _ _ rfl (.inl rfl)]
  exact and63 hb
theorem cnt_min (b : Int) : min (b % 64).toNat 64 = (b % 64).toNat := by omega
theorem shl_s (a : Int) {b : Int} (hb : U b) (w : World) : (Op.shift BinOp.shl IntKind.i64 (sg a) IntKind.u64 (bits BinOp.and IntKind.u64 (IntKind.u64.wrap (sg b)) 63)).run Try.prog w = .ok (.int .i64 (sg (um (a * 2 ^ (b % 64).toNat)))) w := by
  rw [cnt_u hb]
  unfold Op.shift
  rw [if_neg (by omega)]
  show (Sem.pure _).run Try.prog w = _
  rw [show IntKind.i64.bits = 64 from rfl, cnt_min, wrapS, um_sgml]
  rfl
theorem shr_s (a : Int) {b : Int} (hb : U b) (w : World) : (Op.shift BinOp.shr IntKind.i64 (sg a) IntKind.u64 (bits BinOp.and IntKind.u64 (IntKind.u64.wrap (sg b)) 63)).run Try.prog w = .ok (.int .i64 ((sg a).fdiv (2 ^ (b % 64).toNat))) w := by
  rw [cnt_u hb]
  unfold Op.shift
  rw [if_neg (by omega)]
  show (Sem.pure _).run Try.prog w = _
  rw [show IntKind.i64.bits = 64 from rfl, cnt_min]
  rfl

set_option maxHeartbeats 4000000 in
theorem ofInts_any (way : Nat) (a b : Int) (w : World) (h1 : 1 ≤ way) (h2 : way ≤ 11) (_ha : U a) (hb : U b) (hz : (way = 4 ∨ way = 5) → b ≠ 0) :
    Calls Try.prog 18 #[.int .i64 way, .int .i64 (sg a), .int .i64 (sg b)] w (fun e w' => e = .returned (.int .u64 (ai way a b)) ∧ w' = w) := by
  obtain rfl | rfl | rfl | rfl | rfl | rfl | rfl | rfl | rfl | rfl | rfl : way = 1 ∨ way = 2 ∨ way = 3 ∨ way = 4 ∨ way = 5 ∨ way = 6 ∨ way = 7 ∨ way = 8 ∨ way = 9 ∨ way = 10 ∨ way = 11 := by omega
  · go_enter Try.func18, Try.ntmps18
    go_wp2_with (go_at_call 21; refine met (truth_any _ _) ?_)
    go_ret
    refine ⟨congrArg (fun x => Ending.returned (Value.int IntKind.u64 x)) (?_ : _ = ai _ a b), rfl⟩
    rw [wrapU, w64, um_sg, um_um, um_sgl, um_sgr]; rfl
  · go_enter Try.func18, Try.ntmps18
    go_wp2_with (go_at_call 21; refine met (truth_any _ _) ?_)
    go_ret
    refine ⟨congrArg (fun x => Ending.returned (Value.int IntKind.u64 x)) (?_ : _ = ai _ a b), rfl⟩
    rw [wrapU, w64, w64, um_sg, um_um, um_sgl, um_sgr, um_addr, ← Int.sub_eq_add_neg, um_sgsr]; rfl
  · go_enter Try.func18, Try.ntmps18
    go_wp2_with (go_at_call 21; refine met (truth_any _ _) ?_)
    go_ret
    refine ⟨congrArg (fun x => Ending.returned (Value.int IntKind.u64 x)) (?_ : _ = ai _ a b), rfl⟩
    rw [wrapU, w64, um_sg, um_um, um_sgml, um_sgmr]; rfl
  · have hb0 : ¬ sg b = 0 := fun h => hz (by simp) ((sg_zero hb).1 h)
    have hb1 : (sg b == 0) = false := by simpa using hb0
    go_enter Try.func18, Try.ntmps18
    go_wp2_with (go_at_call 21; refine met (truth_any _ _) ?_)
    go_ret
    refine ⟨congrArg (fun x => Ending.returned (Value.int IntKind.u64 x)) (?_ : _ = ai _ a b), rfl⟩
    rw [wrapU, w64, um_sg, um_um]; rfl
  · have hb0 : ¬ sg b = 0 := fun h => hz (by simp) ((sg_zero hb).1 h)
    have hb1 : (sg b == 0) = false := by simpa using hb0
    go_enter Try.func18, Try.ntmps18
    go_wp2_with (go_at_call 21; refine met (truth_any _ _) ?_)
    go_ret
    refine ⟨congrArg (fun x => Ending.returned (Value.int IntKind.u64 x)) (?_ : _ = ai _ a b), rfl⟩
    rw [wrapU]; rfl
  · go_enter Try.func18, Try.ntmps18
    go_wp2_with (go_at_call 21; refine met (truth_any _ _) ?_)
    go_ret
    refine ⟨congrArg (fun x => Ending.returned (Value.int IntKind.u64 x)) (?_ : _ = ai _ a b), rfl⟩
    rw [wrapU, bits_s .and _ _ _ rfl (by simp)]; show ((BitVec.ofInt 64 (sg a) &&& BitVec.ofInt 64 (sg b)).toNat : Int) = _; rw [ofInt_sg, ofInt_sg]; rfl
  · go_enter Try.func18, Try.ntmps18
    go_wp2_with (go_at_call 21; refine met (truth_any _ _) ?_)
    go_ret
    refine ⟨congrArg (fun x => Ending.returned (Value.int IntKind.u64 x)) (?_ : _ = ai _ a b), rfl⟩
    rw [wrapU, bits_s .or _ _ _ rfl (by simp)]; show ((BitVec.ofInt 64 (sg a) ||| BitVec.ofInt 64 (sg b)).toNat : Int) = _; rw [ofInt_sg, ofInt_sg]; rfl
  · go_enter Try.func18, Try.ntmps18
    go_wp2_with (go_at_call 21; refine met (truth_any _ _) ?_)
    go_ret
    refine ⟨congrArg (fun x => Ending.returned (Value.int IntKind.u64 x)) (?_ : _ = ai _ a b), rfl⟩
    rw [wrapU, bits_s .xor _ _ _ rfl (by simp)]; show ((BitVec.ofInt 64 (sg a) ^^^ BitVec.ofInt 64 (sg b)).toNat : Int) = _; rw [ofInt_sg, ofInt_sg]; rfl
  · have hs := shl_s a hb w
    go_enter Try.func18, Try.ntmps18
    go_wp2_with (go_at_call 21; refine met (truth_any _ _) ?_)
    go_ret
    refine ⟨congrArg (fun x => Ending.returned (Value.int IntKind.u64 x)) (?_ : _ = ai _ a b), rfl⟩
    rw [wrapU, um_sg, um_um]; rfl
  · have hs := shr_s a hb w
    go_enter Try.func18, Try.ntmps18
    go_wp2_with (go_at_call 21; refine met (truth_any _ _) ?_)
    go_ret
    refine ⟨congrArg (fun x => Ending.returned (Value.int IntKind.u64 x)) (?_ : _ = ai _ a b), rfl⟩
    rw [wrapU]; rfl
  · go_enter Try.func18, Try.ntmps18
    go_wp2_with (go_at_call 21; refine met (truth_any _ _) ?_)
    go_ret
    refine ⟨congrArg (fun x => Ending.returned (Value.int IntKind.u64 x)) (?_ : _ = ai _ a b), rfl⟩
    show b2u (decide (sg a < sg b)) = if sg a < sg b then 1 else 0; unfold b2u; simp
end Go.Proofs.Ytdedehfeekpioaa
