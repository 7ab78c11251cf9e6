/-
  find: the object that has an address; no statement is proved here.
-/
import Derived.Test.YtlajjcboahflbaaDoorOpenS
namespace Go.Proofs.YtlajjcboahflbaaDoor
open Go.RowKit

/-- The answer r, and nothing but draws. -/
def Qt (w : World) (r : Value) (e : Ending) (w' : World) : Prop := e = .returned r ∧ ∃ m, w' = w.drewN m
theorem qt_ext {w : World} {r : Value} {e : Ending} {w' : World} (h : Qt w r e w') : e = .returned r ∧ Ext [] w w' := by
  obtain ⟨h, m, rfl⟩ := h
  exact ⟨h, Ext.drewN _ _ _⟩

def spAt (H : Hs) (k : Nat) : Spn := H.sp.getD k default
theorem spAt_eq {H : Hs} {k : Nat} {x : Spn} (h : H.sp[k]? = some x) : spAt H k = x := by simp [spAt, h]
theorem spAt_get {H : Hs} {k : Nat} (h : k < H.sp.length) : H.sp[k]? = some (spAt H k) := by simp [spAt, h]
theorem spAt_mem {H : Hs} {k : Nat} (h : k < H.sp.length) : spAt H k ∈ H.sp := List.mem_of_getElem? (spAt_get h)

theorem fnd_out {H : Hs} (h : Hv H) {a : Int} (ha : a < 256 ∨ ((H.P : Int) + 1) * 256 ≤ a) : fnd H a = none := by
  rw [fnd_none]
  rintro k j ⟨x, y, hx, hy, h1, h2⟩
  have := h.at_ hx hy h1 h2
  omega
theorem fnd_free {H : Hs} (h : Hv H) {a : Int} {i : Nat} (hi : (a - 256) / 256 = i) (hn : spanAt H.sp i = none) : fnd H a = none := by
  rw [fnd_none]
  rintro k j ⟨x, y, hx, hy, h1, h2⟩
  obtain ⟨_, _, ⟨i', e1, e2, e3, _⟩, _⟩ := h.at_ hx hy h1 h2
  obtain rfl : i = i' := by omega
  rw [h.spanAt (List.mem_of_getElem? hx) e2 e3] at hn
  cases hn
theorem fnd_at {H : Hs} (h : Hv H) {a : Int} {k i q : Nat} {x : Spn} (hx : H.sp[k]? = some x) (hi : (a - 256) / 256 = i) (h1 : x.st ≤ i) (h2 : i < x.st + x.n) (hq : (a - ((x.st : Int) + 1) * 256) / x.rm = q) :
    fnd H a = if q < x.S.length ∧ a - (((x.st : Int) + 1) * 256 + q * x.rm) < (x.S.getD q (0, 0)).1 then some (k, q) else none := by
  have e : (adr x q : Int) = ((x.st : Int) + 1) * 256 + q * x.rm := by unfold adr; simp
  split
  · rename_i hc
    rw [h.fnd_iff]
    refine ⟨x, x.S.getD q (0, 0), hx, by simp [hc.1], ?_, by omega⟩
    rw [e]
    have h8 := (h.ok x (List.mem_of_getElem? hx)).rm1
    have : (q : Int) * x.rm ≤ a - ((x.st : Int) + 1) * 256 := by rw [← hq]; exact Int.ediv_mul_le _ (by omega)
    omega
  · rename_i hc
    rw [fnd_none]
    rintro k' j ⟨x', y, hx', hy, g1, g2⟩
    obtain ⟨_, _, ⟨i', e1, e2, e3, _⟩, e4, _⟩ := h.at_ hx' hy g1 g2
    obtain rfl : i = i' := by omega
    obtain rfl := h.same hx hx' ⟨h1, h2⟩ ⟨e2, e3⟩
    rw [hx] at hx'; cases hx'
    obtain rfl : q = j := by omega
    refine hc ⟨(List.getElem?_eq_some_iff.1 hy).1, ?_⟩
    have : x.S.getD q (0, 0) = y := by simp [List.getD, hy]
    rw [this]; omega

theorem addr_dr (s g : Nat) (start pages room used i : Int) (S : List Slot) (w : World) (hS : Sp w s g start pages room used S) (h1 : 0 ≤ start ∧ start ≤ 1024) (h2 : 0 ≤ room ∧ room ≤ 65536) (h3 : 0 ≤ i ∧ i ≤ 65536) :
    Calls Tryd.prog 33 #[.pointer (some ⟨s, 0, none⟩), .int .i64 i] w (Qt w (.int .i64 ((start + 1) * 256 + i * room))) := by
  have c0 := hS.c0
  have c2 := hS.c2
  have hm : 0 ≤ i * room ∧ i * room ≤ 65536 * 65536 := ⟨Int.mul_nonneg h3.1 h2.1, Int.mul_le_mul h3.2 h2.2 h2.1 (by omega)⟩
  obtain ⟨q, hq⟩ : ∃ q, q = i * room := ⟨_, rfl⟩
  rw [← hq] at hm ⊢
  have e1 : IntKind.i64.wrap (i * room) = q := by rw [← hq, IntKind.wrap_i64]; omega
  have e2 : IntKind.i64.wrap ((start + 1) * 256 + q) = (start + 1) * 256 + q := by rw [IntKind.wrap_i64]; omega
  have K := fun u => pageAddr_any start u (by omega)
  clear hS hq
  go_enter Tryd.func33, Tryd.ntmps33
  go_wp2_with fail
  go_quiet ((go_at_call 62; exact Calls.quiet_of_same (K _)))
  go_wp2_with fail
  go_ret
  exact ⟨rfl, _, rfl⟩

/-- find's answer. -/
def fdV (sb : Nat → Nat × Nat) (H : Hs) : Option (Nat × Nat) → Value
  | some (k, j) => .tuple #[.pointer (some ⟨(sb (spAt H k).st).1, 0, none⟩), .int .i64 j]
  | none => .tuple #[.pointer none, .int .i64 0]

set_option maxRecDepth 100000 in
set_option maxHeartbeats 4000000 in
theorem find_any {p ox : Nat} {T : TypeId} {cs : Array Value} {F : Nat → Prop} {H : Hs} {ag og : Nat} {V : Value} {sb : Nat → Nat × Nat} {O : List (Option Nat)} (a : Int) (w : World) (hH : Hm w p ox T cs F H ag og V sb O) :
    Calls Tryd.prog 32 #[.pointer (some ⟨p, ox, none⟩), .int .i64 a] w (Qt w (fdV sb H (fnd H a))) := by
  have hO := hH.ow
  have hlen := hH.o1
  have hc := hO.cell
  have K0 := fun u => pageAddr_any 0 u (by omega)
  have K1 := fun u => pageAddr_any (O.length : Int) u (by omega)
  have e0 : ((0 : Int) + 1) * 256 = 256 := by decide
  rw [e0] at K0
  clear e0
  have hol := hH.olen
  have HH := hid hH
  obtain ⟨m, hm⟩ : ∃ m : Int, m = ((O.length : Int) + 1) * 256 := ⟨_, rfl⟩
  rw [← hm] at K1
  have HM := hid hm
  by_cases h1 : a < 256
  · rw [fnd_out hH.ok (.inl h1)]
    clear hm hO hH hol
    generalize O.length = len at *
    go_enter Tryd.func32, Tryd.ntmps32
    go_wp2_with (first | (go_at_call 62; refine met (K0 _) ?_) | fail "no arm")
    go_ret2
    exact ⟨rfl, 0, rfl⟩
  by_cases h2 : m ≤ a
  · rw [fnd_out hH.ok (.inr (by rw [hm, hol] at h2; exact h2))]
    clear hm hO hH hol
    generalize O.length = len at *
    go_enter Tryd.func32, Tryd.ntmps32
    go_wp2_with (first | (go_at_call 62; (with_reducible refine met (K0 _) ?_)) | (go_at_call 62; (with_reducible refine met (K1 _) ?_)) | fail "no arm")
    go_ret2
    exact ⟨rfl, 0, rfl⟩
  obtain ⟨i, hi⟩ : ∃ i : Nat, (a - 256) / 256 = i := ⟨((a - 256) / 256).toNat, by omega⟩
  have hiP : i < H.P := by omega
  have hat := hO.at_ (i := i) (by omega)
  rw [hH.own i hiP] at hat
  have w1 : IntKind.i64.wrap (a - 256) = a - 256 := by rw [IntKind.wrap_i64]; omega
  have w2 : Int.tdiv (a - 256) 256 = i := by rw [Int.tdiv_eq_ediv_of_nonneg (by omega)]; exact hi
  have w3 : IntKind.i64.wrap (i : Int) = i := by rw [IntKind.wrap_i64]; omega
  have hki : (i : Int) < (O.length : Nat) := by omega
  cases hS : spanAt H.sp i with
  | none =>
    rw [fnd_free hH.ok hi hS]
    rw [hS] at hat
    simp only [Option.map_none] at hat
    clear hm hO hH hol hS hi
    generalize O.length = len at *
    go_enter Tryd.func32, Tryd.ntmps32
    go_upto_region 3 with (first | (go_at_call 62; (with_reducible refine met (K0 _) ?_)) | (go_at_call 62; (with_reducible refine met (K1 _) ?_)) | fail "no arm")
    go_quiet ((go_at_call 62; exact Calls.quiet_of_same (K0 _)))
    go_wp2_with fail
    go_ret2
    exact ⟨rfl, _, rfl⟩
  | some x =>
    obtain ⟨hx, x1, x2⟩ := spanAt_some hS
    obtain ⟨k, hk⟩ := List.getElem?_of_mem hx
    have ho := hH.ok.ok x hx
    have hxs := hH.spans x hx
    have hle := hH.ok.le hx
    have hP1 := hH.ok.P1
    have h8 := ho.rm1
    have h65 := ho.rm2
    have hSl := ho.len2 (by omega)
    have hge : ((x.st : Int) + 1) * 256 ≤ a := by omega
    obtain ⟨q, hq⟩ : ∃ q : Nat, (a - ((x.st : Int) + 1) * 256) / x.rm = q := ⟨((a - ((x.st : Int) + 1) * 256) / x.rm).toNat, by
      have : 0 ≤ (a - ((x.st : Int) + 1) * 256) / x.rm := Int.ediv_nonneg (by omega) (by omega)
      omega⟩
    have hqb : (q : Int) * x.rm ≤ a - ((x.st : Int) + 1) * 256 := by rw [← hq]; exact Int.ediv_mul_le _ (by omega)
    have hq8 : (q : Int) * 8 ≤ q * x.rm := Int.mul_le_mul_of_nonneg_left (by omega) (by omega)
    have hq0 : 0 ≤ (q : Int) * x.rm := Int.mul_nonneg (by omega) (by omega)
    rw [fnd_at hH.ok hk hi x1 x2 hq]
    rw [hS] at hat
    simp only [Option.map_some] at hat
    have KA0 := fun nn => addr_dr _ _ _ _ _ _ 0 _ (w.drewN nn) (hxs.keep (Ext.drewN [] w nn) (by simp) (by simp)) (by omega) (by omega) (by omega)
    rw [Int.zero_mul, Int.add_zero] at KA0
    have hmm : m ≤ 262400 := by omega
    obtain ⟨b0, hb0⟩ : ∃ b0 : Int, b0 = ((x.st : Int) + 1) * 256 := ⟨_, rfl⟩
    rw [← hb0] at KA0 hge hq hqb ⊢
    obtain ⟨bi, hbi⟩ : ∃ bi : Int, bi = b0 + q * x.rm := ⟨_, rfl⟩
    rw [← hbi]
    have w4 : IntKind.i64.wrap (a - b0) = a - b0 := by rw [IntKind.wrap_i64]; omega
    have w5 : ¬ (x.rm : Int) = 0 := by omega
    have w6 : Int.tdiv (a - b0) x.rm = q := by rw [Int.tdiv_eq_ediv_of_nonneg (by omega)]; exact hq
    have w7 : IntKind.i64.wrap (q : Int) = q := by rw [IntKind.wrap_i64]; omega
    have w8 : IntKind.i64.wrap (a - bi) = a - bi := by rw [IntKind.wrap_i64]; omega
    have c2 := hxs.c2
    have c4 := hxs.c4
    have hsp := spAt_eq hk
    have KAi : q ≤ 65536 → ∀ nn, Calls Tryd.prog 33 #[.pointer (some ⟨(sb x.st).1, 0, none⟩), .int .i64 q] (w.drewN nn) (Qt (w.drewN nn) (.int .i64 bi)) := fun hqq nn => by
      have := addr_dr _ _ _ _ _ _ q _ (w.drewN nn) (hxs.keep (Ext.drewN [] w nn) (by simp) (by simp)) (by omega) (by omega) (by omega)
      rw [← hb0, ← hbi] at this
      exact this
    have d1 : ¬ a < 256 := h1
    have d2 : ¬ m ≤ a := h2
    by_cases hql : q < x.S.length
    · have cz := (hxs.at_ hql).1
      replace KAi := KAi (by omega)
      have g1 : decide ((x.S.length : Int) ≤ q) = false := by simp; omega
      have g2 : decide (x.S.length ≤ q) = false := by simp; omega
      have g3 : (q : Int) < (x.S.length : Nat) := by omega
      by_cases hsz : a - bi < (x.S.getD q (0, 0)).1
      · have HV : Hid ((if q < x.S.length ∧ a - bi < (x.S.getD q (0, 0)).1 then some (k, q) else none) = some (k, q)) := if_pos ⟨hql, hsz⟩
        rw [HV.out]
        have HF : Hid (fdV sb H (some (k, q)) = .tuple #[.pointer (some ⟨(sb x.st).1, 0, none⟩), .int .i64 q]) := by show Value.tuple #[.pointer (some ⟨(sb (spAt H k).st).1, 0, none⟩), .int .i64 q] = _; rw [hsp]
        rw [HF.out]
        have g4 : decide ((x.S.getD q (0, 0)).1 ≤ a - bi) = false := decide_eq_false (by omega)
        clear HV HF hm hO hH hol hS hi hk hxs ho hle hP1 h8 h65 hSl hb0 hbi hqb hq8 hq0 hx hmm hq x1 x2 hiP hsp h1 h2 hql
        generalize (x.S.getD q (0, 0)).1 = zz at *
        generalize O.length = len at *
        generalize x.S.length = sl at *
        generalize (sb x.st).1 = s at *
        generalize (sb x.st).2 = g at *
        generalize x.rm = rm at *
        go_enter Tryd.func32, Tryd.ntmps32
        go_upto_region 3 with (first | (go_at_call 62; (with_reducible refine met (K0 _) ?_)) | (go_at_call 62; (with_reducible refine met (K1 _) ?_)) | fail "no arm")
        go_quiet ((go_at_call 62; exact Calls.quiet_of_same (K0 _)))
        clear K0 K1 hat hc
        obtain ⟨W1, hW1⟩ : ∃ W1, W1 = w.drewN nq := ⟨_, rfl⟩
        rw [← hW1]
        have HW1 := hid hW1
        have r2 : W1.cell? ⟨s, 2, none⟩ = some (.int .i64 rm) := by rw [hW1]; exact c2
        have r4 : W1.cell? ⟨s, 4, none⟩ = some (.slice (some ⟨g, 0, none⟩) sl sl) := by rw [hW1]; exact c4
        have KA0' : ∀ nn, Calls Tryd.prog 33 #[.pointer (some ⟨s, 0, none⟩), .int .i64 0] (W1.drewN nn) (Qt (W1.drewN nn) (.int .i64 b0)) := fun nn => by have := KA0 (nq + nn); rw [hW1, World.drewN_drewN]; exact this
        have rz : W1.cell? ⟨g, q * 2, none⟩ = some (.int .i64 zz) := by rw [hW1]; exact cz
        have KAi1 : ∀ nn, Calls Tryd.prog 33 #[.pointer (some ⟨s, 0, none⟩), .int .i64 q] (W1.drewN nn) (Qt (W1.drewN nn) (.int .i64 bi)) := fun nn => by have := KAi (nq + nn); rw [hW1, World.drewN_drewN]; exact this
        clear KAi cz
        clear KA0 hW1 c2 c4
        go_upto_region 6 with fail
        go_quiet ((go_at_call 33; exact Calls.quiet_of (KA0' _)))
        clear KA0' r2
        obtain ⟨W2, hW2⟩ : ∃ W2, W2 = W1.drewN nq := ⟨_, rfl⟩
        rw [← hW2]
        have s4 : W2.cell? ⟨s, 4, none⟩ = some (.slice (some ⟨g, 0, none⟩) sl sl) := by rw [hW2]; exact r4
        have s5 : W2.cell? ⟨g, q * 2, none⟩ = some (.int .i64 zz) := by rw [hW2]; exact rz
        have KAi2 : ∀ nn, Calls Tryd.prog 33 #[.pointer (some ⟨s, 0, none⟩), .int .i64 q] (W2.drewN nn) (Qt (W2.drewN nn) (.int .i64 bi)) := fun nn => by have := KAi1 (nq + nn); rw [hW2, World.drewN_drewN]; exact this
        have HW2 : Hid (∃ m, W2 = w.drewN m) := ⟨_, by rw [hW2, HW1.out, World.drewN_drewN]⟩
        clear KAi1 hW2 HW1 r4 rz
        go_upto_region 7 with fail
        go_quiet ((go_at_call 33; exact Calls.quiet_of (KAi2 _)))
        go_wp2_with fail
        go_ret2
        obtain ⟨m2, hm2⟩ := HW2.out
        exact ⟨rfl, _, by rw [hm2, World.drewN_drewN]⟩
      · have HV : Hid ((if q < x.S.length ∧ a - bi < (x.S.getD q (0, 0)).1 then some (k, q) else none) = none) := if_neg (fun h => hsz h.2)
        rw [HV.out]
        show Calls Tryd.prog 32 #[.pointer (some ⟨p, ox, none⟩), .int .i64 a] w (Qt w (.tuple #[.pointer none, .int .i64 0]))
        have g4 : decide ((x.S.getD q (0, 0)).1 ≤ a - bi) = true := decide_eq_true (by omega)
        have g5 : (x.S.getD q (0, 0)).1 ≤ a - bi := by omega
        clear HV hm hO hH hol hS hi hk hxs ho hle hP1 h8 h65 hSl hb0 hbi hqb hq8 hq0 hx hmm hq x1 x2 hiP hsp h1 h2 hql
        generalize (x.S.getD q (0, 0)).1 = zz at *
        generalize O.length = len at *
        generalize x.S.length = sl at *
        generalize (sb x.st).1 = s at *
        generalize (sb x.st).2 = g at *
        generalize x.rm = rm at *
        go_enter Tryd.func32, Tryd.ntmps32
        go_upto_region 3 with (first | (go_at_call 62; (with_reducible refine met (K0 _) ?_)) | (go_at_call 62; (with_reducible refine met (K1 _) ?_)) | fail "no arm")
        go_quiet ((go_at_call 62; exact Calls.quiet_of_same (K0 _)))
        clear K0 K1 hat hc
        obtain ⟨W1, hW1⟩ : ∃ W1, W1 = w.drewN nq := ⟨_, rfl⟩
        rw [← hW1]
        have HW1 := hid hW1
        have r2 : W1.cell? ⟨s, 2, none⟩ = some (.int .i64 rm) := by rw [hW1]; exact c2
        have r4 : W1.cell? ⟨s, 4, none⟩ = some (.slice (some ⟨g, 0, none⟩) sl sl) := by rw [hW1]; exact c4
        have KA0' : ∀ nn, Calls Tryd.prog 33 #[.pointer (some ⟨s, 0, none⟩), .int .i64 0] (W1.drewN nn) (Qt (W1.drewN nn) (.int .i64 b0)) := fun nn => by have := KA0 (nq + nn); rw [hW1, World.drewN_drewN]; exact this
        have rz : W1.cell? ⟨g, q * 2, none⟩ = some (.int .i64 zz) := by rw [hW1]; exact cz
        have KAi1 : ∀ nn, Calls Tryd.prog 33 #[.pointer (some ⟨s, 0, none⟩), .int .i64 q] (W1.drewN nn) (Qt (W1.drewN nn) (.int .i64 bi)) := fun nn => by have := KAi (nq + nn); rw [hW1, World.drewN_drewN]; exact this
        clear KAi cz
        clear KA0 hW1 c2 c4
        go_upto_region 6 with fail
        go_quiet ((go_at_call 33; exact Calls.quiet_of (KA0' _)))
        clear KA0' r2
        obtain ⟨W2, hW2⟩ : ∃ W2, W2 = W1.drewN nq := ⟨_, rfl⟩
        rw [← hW2]
        have s4 : W2.cell? ⟨s, 4, none⟩ = some (.slice (some ⟨g, 0, none⟩) sl sl) := by rw [hW2]; exact r4
        have s5 : W2.cell? ⟨g, q * 2, none⟩ = some (.int .i64 zz) := by rw [hW2]; exact rz
        have KAi2 : ∀ nn, Calls Tryd.prog 33 #[.pointer (some ⟨s, 0, none⟩), .int .i64 q] (W2.drewN nn) (Qt (W2.drewN nn) (.int .i64 bi)) := fun nn => by have := KAi1 (nq + nn); rw [hW2, World.drewN_drewN]; exact this
        have HW2 : Hid (∃ m, W2 = w.drewN m) := ⟨_, by rw [hW2, HW1.out, World.drewN_drewN]⟩
        clear KAi1 hW2 HW1 r4 rz
        go_upto_region 7 with fail
        go_quiet ((go_at_call 33; exact Calls.quiet_of (KAi2 _)))
        go_wp2_with fail
        go_ret2
        obtain ⟨m2, hm2⟩ := HW2.out
        exact ⟨rfl, _, by rw [hm2, World.drewN_drewN]⟩
    · have HV : Hid ((if q < x.S.length ∧ a - bi < (x.S.getD q (0, 0)).1 then some (k, q) else none) = none) := if_neg (fun h => hql h.1)
      rw [HV.out]
      show Calls Tryd.prog 32 #[.pointer (some ⟨p, ox, none⟩), .int .i64 a] w (Qt w (.tuple #[.pointer none, .int .i64 0]))
      have g1 : decide ((x.S.length : Int) ≤ q) = true := decide_eq_true (by omega)
      have g2 : decide (x.S.length ≤ q) = true := decide_eq_true (by omega)
      have g3 : (x.S.length : Int) ≤ q := by omega
      clear HV hm hO hH hol hS hi hk hxs ho hle hP1 h8 h65 hSl hb0 hbi hqb hq8 hq0 hx hmm hq x1 x2 hiP hsp h1 h2 hql KAi
      generalize O.length = len at *
      generalize x.S.length = sl at *
      generalize (sb x.st).1 = s at *
      generalize (sb x.st).2 = g at *
      generalize x.rm = rm at *
      go_enter Tryd.func32, Tryd.ntmps32
      go_upto_region 3 with (first | (go_at_call 62; (with_reducible refine met (K0 _) ?_)) | (go_at_call 62; (with_reducible refine met (K1 _) ?_)) | fail "no arm")
      go_quiet ((go_at_call 62; exact Calls.quiet_of_same (K0 _)))
      clear K0 K1 hat hc
      obtain ⟨W1, hW1⟩ : ∃ W1, W1 = w.drewN nq := ⟨_, rfl⟩
      rw [← hW1]
      have HW1 := hid hW1
      have r2 : W1.cell? ⟨s, 2, none⟩ = some (.int .i64 rm) := by rw [hW1]; exact c2
      have r4 : W1.cell? ⟨s, 4, none⟩ = some (.slice (some ⟨g, 0, none⟩) sl sl) := by rw [hW1]; exact c4
      have KA0' : ∀ nn, Calls Tryd.prog 33 #[.pointer (some ⟨s, 0, none⟩), .int .i64 0] (W1.drewN nn) (Qt (W1.drewN nn) (.int .i64 b0)) := fun nn => by have := KA0 (nq + nn); rw [hW1, World.drewN_drewN]; exact this
      clear KA0 hW1 c2 c4
      go_upto_region 6 with fail
      go_quiet ((go_at_call 33; exact Calls.quiet_of (KA0' _)))
      clear KA0' r2
      obtain ⟨W2, hW2⟩ : ∃ W2, W2 = W1.drewN nq := ⟨_, rfl⟩
      rw [← hW2]
      have s4 : W2.cell? ⟨s, 4, none⟩ = some (.slice (some ⟨g, 0, none⟩) sl sl) := by rw [hW2]; exact r4
      have HW2 : Hid (∃ m, W2 = w.drewN m) := ⟨_, by rw [hW2, HW1.out, World.drewN_drewN]⟩
      clear hW2 HW1 r4
      go_upto_region 7 with fail
      go_quiet (fail)
      go_wp2_with fail
      go_ret2
      obtain ⟨m2, hm2⟩ := HW2.out
      exact ⟨rfl, _, by rw [hm2, World.drewN_drewN]⟩

end Go.Proofs.YtlajjcboahflbaaDoor
