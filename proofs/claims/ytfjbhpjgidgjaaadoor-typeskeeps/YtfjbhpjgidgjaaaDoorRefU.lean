/-
  How the reference writes tables; no statement is proved here.
-/
import Derived.Test.YtfjbhpjgidgjaaaDoorEncT
import Derived.Test.YtfjbhpjgidgjaaaDoorRefF
namespace Go.Proofs.YtfjbhpjgidgjaaaDoor
open Go.RowKit

theorem lit1 (w : World) (y : Int) : YOwn w (w.alloc (.cells #[.int .u8 y] 5)) (.slice (some ⟨w.heap.size, 0, none⟩) 1 1) [y] := by
  have := World.ownsRow_lit (base := w.heap.size) (e := 5) (size := 1) w #[.int .u8 y] 1 (Nat.le_refl _) (by unfold maxLen; omega) rfl
  simpa [YOwn] using this

set_option maxRecDepth 100000 in
set_option maxHeartbeats 1000000 in
theorem number64 : ∀ (b n : Nat) (w : World), n < b → n ≤ 2147483647 → Calls Tryd.prog 64 #[.int .u64 (n : Int)] w (YPost w w (vb n))
  | 0, _, _, h, _ => by omega
  | b + 1, n, w, h, hn => by
    by_cases hm : n < 128
    · have HFin : Hid (YPost w w (vb n) (.returned (.slice (some ⟨w.heap.size, 0, none⟩) 1 1)) (w.alloc (.cells #[.int .u8 (n : Int)] 5))) := ⟨_, rfl, by rw [vb_lo hm]; exact lit1 w n, Ext.alloc _ _ _, Fy.of (Ext.alloc _ _ _)⟩
      clear h
      go_enter Tryd.func64, Tryd.ntmps64
      go_wp2_with fail
      go_ret
      exact HFin.out
    · obtain ⟨y, hy⟩ : ∃ y : Int, y = ((128 + n % 128 : Nat) : Int) := ⟨_, rfl⟩
      have hyw : (128 + (n : Int) % 128) = y := by rw [hy]; omega
      have hy0 : 0 ≤ y := by omega
      have hy1 : y < 256 := by omega
      have K := number64 b (n / 128) (w.alloc (.cells #[.int .u8 y] 5)) (by omega) (by omega)
      have HV : Hid (vb n = [y] ++ vb (n / 128)) := by show _ = _; rw [vb_hi hm, hy]; rfl
      have hl5 := vb_len5 (n := n / 128) (by omega)
      have HL5 := hid hl5
      obtain ⟨z, hz⟩ : ∃ z : Int, z = ((n / 128 : Nat) : Int) := ⟨_, rfl⟩
      rw [← hz] at K
      have hzw : (n : Int) / 128 = z := by rw [hz]; omega
      clear hy hz hl5
      go_enter Tryd.func64, Tryd.ntmps64
      go_wp2_with fail
      refine K.mono ?_
      clear K
      rintro e w2 ⟨v2, rfl, hO2, hE2, _⟩
      obtain ⟨a2, c2, rfl, _⟩ := own_slice hO2
      obtain ⟨v3, w3, hr, hO3, hE3, hF3⟩ := YOwn.app (own_keep0 (lit1 w y) hE2) ((Ext.alloc [] _ _).trans hE2) (c := c2) (own_vs hO2) (by have := HL5.out; simp; omega)
      have HFin : Hid (YPost w w (vb n) (.returned v3) w3) := ⟨_, rfl, by rw [HV.out]; exact hO3, hE3, Fy.of hE3⟩
      clear hO2 hE2 hO3 hE3 hF3
      go_wp2_with (at_builtin; refine wpList_append_run rfl _ _ 36 rfl _ _ _ rfl rfl hr ?_)
      go_ret
      exact HFin.out

/-- What stands behind a number that is to be appended. -/
def St (w : World) (q : Nat) (t : Ty) (fa : Option Addr) (fc : Nat) (lv : Value) (xs : List Int) (e : Ending) (w2 : World) : Prop :=
  ∃ a2 l c2 v3 w3, e = .returned (.slice a2 l c2) ∧ (Builtin.append_ #[36, 36] 36 #[lv, .slice a2 l c2]).run Tryd.prog w2 = .ok v3 w3 ∧ YOwn w w3 v3 xs ∧ Ext [] w w3 ∧ OneAt w3 q t fa fc

theorem step64 {w W : World} {lv : Value} {xs : List Int} {q : Nat} {t : Ty} {fa : Option Addr} {fc : Nat} (x : Nat) (hO : YOwn w W lv xs) (hE : Ext [] w W) (hone : OneAt W q t fa fc) (hl : xs.length ≤ 1000000) (hx : x ≤ 2147483647) :
    Calls Tryd.prog 64 #[.int .u64 (x : Int)] W (St w q t fa fc lv (xs ++ vb x)) := by
  refine (number64 (x + 1) x W (by omega) hx).mono ?_
  rintro e w2 ⟨v2, rfl, hO2, hE2, hF2⟩
  obtain ⟨a2, c2, rfl, _⟩ := own_slice hO2
  have := vb_len5 hx
  obtain ⟨v3, w3, hr, hO3, hE3, hF3⟩ := YOwn.app (own_keep0 hO hE2) (hE.trans hE2) (c := c2) (own_vs hO2) (by omega)
  exact ⟨a2, _, c2, v3, w3, rfl, hr, hO3, hE3, hF3 _ _ _ _ (by decide) (hF2 _ _ _ _ (by decide) hone)⟩

set_option maxRecDepth 100000 in
set_option maxHeartbeats 4000000 in
theorem table_any (a : Option Addr) (ts : List Ty) (n c : Nat) (w : World) (hT : Tab w a ts) (hn : ts.length = n) (hs : Sound ts) :
    Calls Tryd.prog 44 #[.slice a n c] w (YPost w w (encTab ts)) := by
  have hn64 : n ≤ 64 := by rw [← hn]; exact hs.1
  have K := number64 (n + 1) n w (by omega) (by omega)
  have HT := hid hT
  have HN := hid hn
  have HS := hid hs
  have hv := vb_len5 (n := n) (by omega)
  clear hT hn hs
  go_enter Tryd.func44, Tryd.ntmps44
  go_wp2_with fail
  refine K.mono ?_
  clear K
  rintro e w1 ⟨v1, rfl, hO1, hE1, _⟩
  have HN1 : Hid (YOwn w w1 v1 (vb n ++ encMany (ts.take 0)) ∧ Ext [] w w1) := ⟨by simpa [encMany] using hO1, hE1⟩
  clear hO1 hE1
  go_wp2_with fail
  go_loopg [3, 4] n (fun g lv u wr => ∃ k : Nat, k + g = n ∧ u = .int .i64 (k : Nat) ∧ YOwn w wr lv (vb n ++ encMany (ts.take k)) ∧ Ext [] w wr)
  case atStart => exact ⟨0, by omega, rfl, HN1.out⟩
  case round =>
    clear HN1
    obtain ⟨k, hkg, rfl, hO, hE⟩ := hrel
    have HO := hid hO
    have HE := hid hE
    clear hO hE
    cases gk with
    | zero =>
      have hkm : ¬ ((k : Int) < n) := by omega
      have HFin : Hid (YPost w w (encTab ts) (.returned u3) wr) := by
        refine ⟨u3, rfl, ?_, HE.out, Fy.of HE.out⟩
        have h1 := HO.out
        rw [List.take_of_length_le (by rw [HN.out]; omega)] at h1
        unfold encTab
        rw [HN.out]
        exact h1
      go_wp2_with fail
      go_ret
      exact HFin.out
    | succ g =>
      obtain ⟨b, o, rfl, hta⟩ := HT.out.addr (by rw [HN.out]; omega)
      obtain ⟨fa, fc, htt⟩ := hta k (by rw [HN.out]; omega)
      have HFo := hid htt.f
      obtain ⟨c0, c1, c2, c3, c4, _⟩ := htt.keep0 HE.out
      have hsm := (HS.out.small (i := k) (by rw [HN.out]; omega)).1
      have HTk : Hid (vb n ++ encMany (ts.take (k + 1)) = (vb n ++ encMany (ts.take k)) ++ encTy (tyAt ts k)) := by show _ = _; rw [encMany_take ts k (by rw [HN.out]; omega), List.append_assoc]
      have hel := encMany_len HS.out k (by rw [HN.out]; omega)
      have hE0 := Ext.alloc [] wr (.cells #[.int .i64 (tyAt ts k).kind, .int .i64 (tyAt ts k).elem, .int .i64 (tyAt ts k).key, .int .i64 (tyAt ts k).len, .slice fa (tyAt ts k).fields.length fc] 48)
      have hone : OneAt (wr.alloc (.cells #[.int .i64 (tyAt ts k).kind, .int .i64 (tyAt ts k).elem, .int .i64 (tyAt ts k).key, .int .i64 (tyAt ts k).len, .slice fa (tyAt ts k).fields.length fc] 48)) wr.heap.size (tyAt ts k) fa fc := heap_alloc_new wr _
      obtain ⟨xs, hxs⟩ : ∃ xs, xs = vb n ++ encMany (ts.take k) := ⟨_, rfl⟩
      have hxl : xs.length ≤ 100000 := by rw [hxs]; simp; omega
      rw [← hxs] at HTk HO
      have HXs := hid hxs
      generalize tyAt ts k = t at *
      obtain ⟨kd, hkd⟩ : ∃ kd : Nat, t.kind = kd := ⟨t.kind.toNat, by have := hsm.k0; omega⟩
      have hk0 := hsm.k0
      have hk1 := hsm.k1
      have hkl := vb_len5 (n := kd) (by omega)
      rw [hkd] at hk0 hk1
      have K := step64 (w := w) kd (own_keep0 HO.out hE0) (HE.out.trans hE0) hone (by omega) (by omega)
      have HEnc : Hid (encTy t = vb kd ++ (if t.kind = 5 ∨ t.kind = 10 then vb t.elem.toNat else if t.kind = 6 then vb t.key.toNat ++ vb t.elem.toNat else if t.kind = 8 then vb t.fields.length ++ encFields t.fields else if t.kind = 9 then vb t.elem.toNat ++ vb t.len.toNat else [])) := by
        show _ = _; unfold encTy; rw [hkd]; rfl
      have HKd := hid hkd
      obtain ⟨q, hq⟩ : ∃ q, q = wr.heap.size := ⟨_, rfl⟩
      have HSm := hid hsm
      obtain ⟨el, hel2⟩ : ∃ el : Nat, t.elem = el := ⟨t.elem.toNat, by have := hsm.e0; omega⟩
      obtain ⟨ky, hky⟩ : ∃ ky : Nat, t.key = ky := ⟨t.key.toNat, by have := hsm.y0; omega⟩
      obtain ⟨ln, hln⟩ : ∃ ln : Nat, t.len = ln := ⟨t.len.toNat, by have := hsm.l0; omega⟩
      have hel3 : el ≤ 2147483647 := by have := hsm.e1; omega
      have hky3 : ky ≤ 2147483647 := by have := hsm.y1; omega
      have hln3 : ln ≤ 2147483647 := by have := hsm.l1; omega
      have hfl3 := hsm.f0
      have HEq : Hid (t.elem = el ∧ t.key = ky ∧ t.len = ln) := ⟨hel2, hky, hln⟩
      rw [hkd] at c0 K
      clear hta htt hE0 hsm hel hone hkd hel2 hky hln hxs
      go_wp2_with fail
      refine K.mono ?_
      clear K c0 c1 c2 c3 c4
      have hkc : (kd = 1 ∨ kd = 2 ∨ kd = 3 ∨ kd = 4 ∨ kd = 7) ∨ kd = 5 ∨ kd = 10 ∨ kd = 6 ∨ kd = 8 ∨ kd = 9 := by omega
      rcases hkc with hkc | hkc | hkc | hkc | hkc | hkc
      · rintro e w3 ⟨a3, l3, c3, v3, y3, rfl, hr, hO3, hE3, hone3⟩
        have HO3 := hid hO3
        have HE3 := hid hE3
        have HOne3 := hid hone3
        have HC3 := hid hone3.cells
        clear hO3 hE3 hone3
        obtain ⟨m0, m1, m2, m3, m4, mf⟩ := HC3.out
        rw [HKd.out] at m0
        rw [HEq.out.1] at m1
        rw [HEq.out.2.1] at m2
        rw [HEq.out.2.2] at m3
        have HE0 : Hid (encTy t = vb kd ++ ([])) := by
          show _ = _
          rw [HEnc.out, HKd.out, HEq.out.1, HEq.out.2.1, HEq.out.2.2]
          rw [if_neg (by omega), if_neg (by omega), if_neg (by omega), if_neg (by omega)]
        have hq5 : ((kd : Int) == 5) = false := beq_false_of_ne (by omega)
        have hq10 : ((kd : Int) == 10) = false := beq_false_of_ne (by omega)
        have hq6 : ((kd : Int) == 6) = false := beq_false_of_ne (by omega)
        have hq8 : ((kd : Int) == 8) = false := beq_false_of_ne (by omega)
        have hq9 : ((kd : Int) == 9) = false := beq_false_of_ne (by omega)
        have HN : Hid (YOwn w y3 v3 (vb n ++ encMany (ts.take (k + 1))) ∧ Ext [] w y3) := by
          refine ⟨?_, HE3.out⟩
          rw [HTk.out, HE0.out]
          have := HO3.out
          simpa using this
        go_wp2_with (at_builtin; refine wpList_append_run rfl _ _ 36 rfl _ _ _ rfl rfl hr ?_)
        go_roundg g
        case measure => omega
        case rel => exact ⟨k + 1, by omega, by go_num, HN.out⟩
      · rintro e w3 ⟨a3, l3, c3, v3, y3, rfl, hr, hO3, hE3, hone3⟩
        have HO3 := hid hO3
        have HE3 := hid hE3
        have HOne3 := hid hone3
        have HC3 := hid hone3.cells
        clear hO3 hE3 hone3
        obtain ⟨m0, m1, m2, m3, m4, mf⟩ := HC3.out
        rw [HKd.out] at m0
        rw [HEq.out.1] at m1
        rw [HEq.out.2.1] at m2
        rw [HEq.out.2.2] at m3
        have HE0 : Hid (encTy t = vb kd ++ (vb el)) := by
          show _ = _
          rw [HEnc.out, HKd.out, HEq.out.1, HEq.out.2.1, HEq.out.2.2]
          rw [if_pos (by omega)]; rfl
        have hq5 : ((kd : Int) == 5) = true := by rw [hkc]; rfl
        have hel4 := vb_len5 hel3
        have K := step64 (w := w) el HO3.out HE3.out HOne3.out (by simp; omega) hel3
        go_wp2_with (at_builtin; refine wpList_append_run rfl _ _ 36 rfl _ _ _ rfl rfl hr ?_)
        refine K.mono ?_
        clear K hr m0 m1 m2 m3 m4 mf
        rintro e w5 ⟨a5, l5, c5, v5, y5, rfl, hr, hO5, hE5, hone5⟩
        have HO5 := hid hO5
        have HE5 := hid hE5
        have HOne5 := hid hone5
        have HC5 := hid hone5.cells
        clear hO5 hE5 hone5
        obtain ⟨m0, m1, m2, m3, m4, mf⟩ := HC5.out
        rw [HKd.out] at m0
        rw [HEq.out.1] at m1
        rw [HEq.out.2.1] at m2
        rw [HEq.out.2.2] at m3
        have HN : Hid (YOwn w y5 v5 (vb n ++ encMany (ts.take (k + 1))) ∧ Ext [] w y5) := by
          refine ⟨?_, HE5.out⟩
          rw [HTk.out, HE0.out]
          have := HO5.out
          simpa using this
        go_wp2_with (at_builtin; refine wpList_append_run rfl _ _ 36 rfl _ _ _ rfl rfl hr ?_)
        go_roundg g
        case measure => omega
        case rel => exact ⟨k + 1, by omega, by go_num, HN.out⟩
      · rintro e w3 ⟨a3, l3, c3, v3, y3, rfl, hr, hO3, hE3, hone3⟩
        have HO3 := hid hO3
        have HE3 := hid hE3
        have HOne3 := hid hone3
        have HC3 := hid hone3.cells
        clear hO3 hE3 hone3
        obtain ⟨m0, m1, m2, m3, m4, mf⟩ := HC3.out
        rw [HKd.out] at m0
        rw [HEq.out.1] at m1
        rw [HEq.out.2.1] at m2
        rw [HEq.out.2.2] at m3
        have HE0 : Hid (encTy t = vb kd ++ (vb el)) := by
          show _ = _
          rw [HEnc.out, HKd.out, HEq.out.1, HEq.out.2.1, HEq.out.2.2]
          rw [if_pos (by omega)]; rfl
        have hq10 : ((kd : Int) == 10) = true := by rw [hkc]; rfl
        have hq5 : ((kd : Int) == 5) = false := beq_false_of_ne (by omega)
        have hel4 := vb_len5 hel3
        have K := step64 (w := w) el HO3.out HE3.out HOne3.out (by simp; omega) hel3
        go_wp2_with (at_builtin; refine wpList_append_run rfl _ _ 36 rfl _ _ _ rfl rfl hr ?_)
        refine K.mono ?_
        clear K hr m0 m1 m2 m3 m4 mf
        rintro e w5 ⟨a5, l5, c5, v5, y5, rfl, hr, hO5, hE5, hone5⟩
        have HO5 := hid hO5
        have HE5 := hid hE5
        have HOne5 := hid hone5
        have HC5 := hid hone5.cells
        clear hO5 hE5 hone5
        obtain ⟨m0, m1, m2, m3, m4, mf⟩ := HC5.out
        rw [HKd.out] at m0
        rw [HEq.out.1] at m1
        rw [HEq.out.2.1] at m2
        rw [HEq.out.2.2] at m3
        have HN : Hid (YOwn w y5 v5 (vb n ++ encMany (ts.take (k + 1))) ∧ Ext [] w y5) := by
          refine ⟨?_, HE5.out⟩
          rw [HTk.out, HE0.out]
          have := HO5.out
          simpa using this
        go_wp2_with (at_builtin; refine wpList_append_run rfl _ _ 36 rfl _ _ _ rfl rfl hr ?_)
        go_roundg g
        case measure => omega
        case rel => exact ⟨k + 1, by omega, by go_num, HN.out⟩
      · rintro e w3 ⟨a3, l3, c3, v3, y3, rfl, hr, hO3, hE3, hone3⟩
        have HO3 := hid hO3
        have HE3 := hid hE3
        have HOne3 := hid hone3
        have HC3 := hid hone3.cells
        clear hO3 hE3 hone3
        obtain ⟨m0, m1, m2, m3, m4, mf⟩ := HC3.out
        rw [HKd.out] at m0
        rw [HEq.out.1] at m1
        rw [HEq.out.2.1] at m2
        rw [HEq.out.2.2] at m3
        have HE0 : Hid (encTy t = vb kd ++ (vb ky ++ vb el)) := by
          show _ = _
          rw [HEnc.out, HKd.out, HEq.out.1, HEq.out.2.1, HEq.out.2.2]
          rw [if_neg (by omega), if_pos (by omega)]; rfl
        have hq6 : ((kd : Int) == 6) = true := by rw [hkc]; rfl
        have hq5 : ((kd : Int) == 5) = false := beq_false_of_ne (by omega)
        have hq10 : ((kd : Int) == 10) = false := beq_false_of_ne (by omega)
        have hva := vb_len5 hky3
        have K := step64 (w := w) ky HO3.out HE3.out HOne3.out (by simp; omega) hky3
        go_wp2_with (at_builtin; refine wpList_append_run rfl _ _ 36 rfl _ _ _ rfl rfl hr ?_)
        refine K.mono ?_
        clear K hr m0 m1 m2 m3 m4 mf
        rintro e w5 ⟨a5, l5, c5, v5, y5, rfl, hr, hO5, hE5, hone5⟩
        have HO5 := hid hO5
        have HE5 := hid hE5
        have HOne5 := hid hone5
        have HC5 := hid hone5.cells
        clear hO5 hE5 hone5
        obtain ⟨m0, m1, m2, m3, m4, mf⟩ := HC5.out
        rw [HKd.out] at m0
        rw [HEq.out.1] at m1
        rw [HEq.out.2.1] at m2
        rw [HEq.out.2.2] at m3
        have K := step64 (w := w) el HO5.out HE5.out HOne5.out (by simp; omega) hel3
        go_wp2_with (at_builtin; refine wpList_append_run rfl _ _ 36 rfl _ _ _ rfl rfl hr ?_)
        refine K.mono ?_
        clear K hr m0 m1 m2 m3 m4 mf
        rintro e w7 ⟨a7, l7, c7, v7, y7, rfl, hr, hO7, hE7, hone7⟩
        have HO7 := hid hO7
        have HE7 := hid hE7
        have HOne7 := hid hone7
        have HC7 := hid hone7.cells
        clear hO7 hE7 hone7
        obtain ⟨m0, m1, m2, m3, m4, mf⟩ := HC7.out
        rw [HKd.out] at m0
        rw [HEq.out.1] at m1
        rw [HEq.out.2.1] at m2
        rw [HEq.out.2.2] at m3
        have HN : Hid (YOwn w y7 v7 (vb n ++ encMany (ts.take (k + 1))) ∧ Ext [] w y7) := by
          refine ⟨?_, HE7.out⟩
          rw [HTk.out, HE0.out]
          have := HO7.out
          simpa using this
        go_wp2_with (at_builtin; refine wpList_append_run rfl _ _ 36 rfl _ _ _ rfl rfl hr ?_)
        go_roundg g
        case measure => omega
        case rel => exact ⟨k + 1, by omega, by go_num, HN.out⟩
      · rintro e w3 ⟨a3, l3, c3, v3, y3, rfl, hr, hO3, hE3, hone3⟩
        have HO3 := hid hO3
        have HE3 := hid hE3
        have HOne3 := hid hone3
        have HC3 := hid hone3.cells
        clear hO3 hE3 hone3
        obtain ⟨m0, m1, m2, m3, m4, mf⟩ := HC3.out
        rw [HKd.out] at m0
        rw [HEq.out.1] at m1
        rw [HEq.out.2.1] at m2
        rw [HEq.out.2.2] at m3
        have HE0 : Hid (encTy t = vb kd ++ (vb t.fields.length ++ encFields t.fields)) := by
          show _ = _
          rw [HEnc.out, if_neg (by rw [HKd.out]; omega), if_neg (by rw [HKd.out]; omega), if_pos (by rw [HKd.out]; omega)]
        have hq8 : ((kd : Int) == 8) = true := by rw [hkc]; rfl
        have hq5 : ((kd : Int) == 5) = false := beq_false_of_ne (by omega)
        have hq10 : ((kd : Int) == 10) = false := beq_false_of_ne (by omega)
        have hq6 : ((kd : Int) == 6) = false := beq_false_of_ne (by omega)
        have HFF := hid HSm.out.f1
        have HIs := hid HFo.out.1
        have K := step64 (w := w) t.fields.length HO3.out HE3.out HOne3.out (by simp; omega) (by omega)
        obtain ⟨m, hm⟩ : ∃ m, t.fields.length = m := ⟨_, rfl⟩
        have HM := hid hm
        have hml := vb_len5 (n := m) (by omega)
        rw [hm] at K m4 hfl3
        clear hm
        obtain ⟨wk, hwk⟩ : ∃ x, x = wr := ⟨_, rfl⟩
        subst hwk
        go_wp2_with (at_builtin; refine wpList_append_run rfl _ _ 36 rfl _ _ _ rfl rfl hr ?_)
        refine K.mono ?_
        clear K hr m0 m1 m2 m3 m4 mf
        rintro e w5 ⟨a5, l5, c5, v5, y5, rfl, hr, hO5, hE5, hone5⟩
        have HO5 := hid hO5
        have HE5 := hid hE5
        have HOne5 := hid hone5
        have HC5 := hid hone5.cells
        clear hO5 hE5 hone5
        obtain ⟨m0, m1, m2, m3, m4, mf⟩ := HC5.out
        rw [HM.out] at m4
        have HN5 : Hid (YOwn w y5 v5 (((xs ++ vb kd) ++ vb m) ++ encFields (t.fields.take 0)) ∧ Ext [] w y5 ∧ OneAt y5 wk.heap.size t fa fc) := ⟨by simpa [encFields] using HO5.out, HE5.out, HOne5.out⟩
        go_wp2_with (at_builtin; refine wpList_append_run rfl _ _ 36 rfl _ _ _ rfl rfl hr ?_)
        go_loopg [3, 6] m (fun g' lv u wr => ∃ i : Nat, i + g' = m ∧ u = .int .i64 (i : Nat) ∧ YOwn w wr lv (((xs ++ vb kd) ++ vb m) ++ encFields (t.fields.take i)) ∧ Ext [] w wr ∧ OneAt wr wk.heap.size t fa fc)
        case atStart => exact ⟨0, by omega, rfl, HN5.out⟩
        case round =>
          clear HN5 m0 m1 m2 m3 m4 mf
          obtain ⟨i, hig, rfl, hO, hE, hone⟩ := hrel
          obtain ⟨wy, hwy⟩ : ∃ x, x = wr := ⟨_, rfl⟩
          subst hwy
          have HOi := hid hO
          have HEi := hid hE
          have HOnei := hid hone
          obtain ⟨m0, m1, m2, m3, m4, mf⟩ := hone.cells
          rw [HM.out] at m4
          clear hO hE hone
          cases gk with
          | zero =>
            have him : ¬ ((i : Int) < m) := by omega
            have HN : Hid (YOwn w wy u3 (vb n ++ encMany (ts.take (k + 1))) ∧ Ext [] w wy) := by
              refine ⟨?_, HEi.out⟩
              rw [HTk.out, HE0.out, HM.out]
              have := HOi.out
              rw [List.take_of_length_le (by rw [HM.out]; omega)] at this
              simpa using this
            go_wp2_with fail
            go_roundg g
            case measure => omega
            case rel => exact ⟨k + 1, by omega, by go_num, HN.out⟩
          | succ g7 =>
            obtain ⟨fb, fo, rfl, hcc⟩ := HIs.out.at_ (by intro h; have := HM.out; rw [h] at this; simp at this; omega)
            have hck := HEi.out.cell (hcc i (by rw [HM.out]; omega)) (by simp)
            have hfk := HFF.out _ (getD_mem (k := i) (by rw [HM.out]; omega))
            have HSn := hid (encFields_snoc t.fields i (by rw [HM.out]; omega))
            have HTi := hid (take_ok (k := i) HFF.out)
            clear hcc
            generalize t.fields.getD i 0 = x at *
            obtain ⟨hx0, hx1⟩ := hfk
            obtain ⟨y, rfl⟩ : ∃ y : Nat, x = y := ⟨x.toNat, by omega⟩
            have K := step64 (w := w) y HOi.out HEi.out HOnei.out (by have := HTi.out; have := HM.out; simp; omega) (by omega)
            go_wp2_with fail
            refine K.mono ?_
            clear K m0 m1 m2 m3 m4 mf
            rintro e w7 ⟨a7, l7, c7, v7, y7, rfl, hr7, hO7, hE7, hone7⟩
            have HN7 : Hid (YOwn w y7 v7 (((xs ++ vb kd) ++ vb m) ++ encFields (t.fields.take (i + 1))) ∧ Ext [] w y7 ∧ OneAt y7 wk.heap.size t (some ⟨fb, fo, none⟩) fc) := ⟨by rw [HSn.out]; simpa using hO7, hE7, hone7⟩
            clear hO7 hE7 hone7
            go_wp2_with (at_builtin; refine wpList_append_run rfl _ _ 36 rfl _ _ _ rfl rfl hr7 ?_)
            go_roundg g7
            case measure => omega
            case rel => exact ⟨i + 1, by omega, by go_num, HN7.out⟩
      · rintro e w3 ⟨a3, l3, c3, v3, y3, rfl, hr, hO3, hE3, hone3⟩
        have HO3 := hid hO3
        have HE3 := hid hE3
        have HOne3 := hid hone3
        have HC3 := hid hone3.cells
        clear hO3 hE3 hone3
        obtain ⟨m0, m1, m2, m3, m4, mf⟩ := HC3.out
        rw [HKd.out] at m0
        rw [HEq.out.1] at m1
        rw [HEq.out.2.1] at m2
        rw [HEq.out.2.2] at m3
        have HE0 : Hid (encTy t = vb kd ++ (vb el ++ vb ln)) := by
          show _ = _
          rw [HEnc.out, HKd.out, HEq.out.1, HEq.out.2.1, HEq.out.2.2]
          rw [if_neg (by omega), if_neg (by omega), if_neg (by omega), if_pos (by omega)]; rfl
        have hq9 : ((kd : Int) == 9) = true := by rw [hkc]; rfl
        have hq5 : ((kd : Int) == 5) = false := beq_false_of_ne (by omega)
        have hq10 : ((kd : Int) == 10) = false := beq_false_of_ne (by omega)
        have hq6 : ((kd : Int) == 6) = false := beq_false_of_ne (by omega)
        have hq8 : ((kd : Int) == 8) = false := beq_false_of_ne (by omega)
        have hva := vb_len5 hel3
        have K := step64 (w := w) el HO3.out HE3.out HOne3.out (by simp; omega) hel3
        go_wp2_with (at_builtin; refine wpList_append_run rfl _ _ 36 rfl _ _ _ rfl rfl hr ?_)
        refine K.mono ?_
        clear K hr m0 m1 m2 m3 m4 mf
        rintro e w5 ⟨a5, l5, c5, v5, y5, rfl, hr, hO5, hE5, hone5⟩
        have HO5 := hid hO5
        have HE5 := hid hE5
        have HOne5 := hid hone5
        have HC5 := hid hone5.cells
        clear hO5 hE5 hone5
        obtain ⟨m0, m1, m2, m3, m4, mf⟩ := HC5.out
        rw [HKd.out] at m0
        rw [HEq.out.1] at m1
        rw [HEq.out.2.1] at m2
        rw [HEq.out.2.2] at m3
        have K := step64 (w := w) ln HO5.out HE5.out HOne5.out (by simp; omega) hln3
        go_wp2_with (at_builtin; refine wpList_append_run rfl _ _ 36 rfl _ _ _ rfl rfl hr ?_)
        refine K.mono ?_
        clear K hr m0 m1 m2 m3 m4 mf
        rintro e w7 ⟨a7, l7, c7, v7, y7, rfl, hr, hO7, hE7, hone7⟩
        have HO7 := hid hO7
        have HE7 := hid hE7
        have HOne7 := hid hone7
        have HC7 := hid hone7.cells
        clear hO7 hE7 hone7
        obtain ⟨m0, m1, m2, m3, m4, mf⟩ := HC7.out
        rw [HKd.out] at m0
        rw [HEq.out.1] at m1
        rw [HEq.out.2.1] at m2
        rw [HEq.out.2.2] at m3
        have HN : Hid (YOwn w y7 v7 (vb n ++ encMany (ts.take (k + 1))) ∧ Ext [] w y7) := by
          refine ⟨?_, HE7.out⟩
          rw [HTk.out, HE0.out]
          have := HO7.out
          simpa using this
        go_wp2_with (at_builtin; refine wpList_append_run rfl _ _ 36 rfl _ _ _ rfl rfl hr ?_)
        go_roundg g
        case measure => omega
        case rel => exact ⟨k + 1, by omega, by go_num, HN.out⟩

theorem rencode_any (a : Option Addr) (ts : List Ty) (n c : Nat) (w : World) (hT : Tab w a ts) (hn : ts.length = n) :
    Calls Tryd.prog 25 #[.slice a n c] w (EncPost w ts) := by
  have K := rcheck_any a ts n c w hT hn
  have HT := hid hT
  have HN := hid hn
  clear hT hn
  go_enter Tryd.func25, Tryd.ntmps25
  go_wp2_with fail
  refine K.mono ?_
  clear K
  rintro e w1 ⟨rfl, hE1⟩
  have HE1 := hid hE1
  by_cases hs : Sound ts
  · have HS := hid hs
    have HChk := hid (chk_yes hs)
    rw [chk_yes hs]
    have K := table_any a ts n c w1 (HT.out.keep0 hE1) HN.out hs
    clear hE1 hs
    go_wp2_with fail
    refine K.mono ?_
    clear K
    rintro e w2 ⟨v2, rfl, hO2, hE2, _⟩
    have HFin : Hid (EncPost w ts (.returned (.tuple #[v2, .int .i64 0])) w2) := ⟨v2, by rw [HChk.out], by rw [encR_yes HS.out]; exact own_base hO2 HE1.out.size, HE1.out.trans hE2⟩
    clear hO2 hE2
    go_wp2_with fail
    go_ret2
    exact HFin.out
  · have HFin : Hid (EncPost w ts (.returned (.tuple #[.slice none 0 0, .int .i64 1])) w1) := ⟨_, by rw [chk_no hs], by rw [encR_no hs]; exact own_nil _ _ _ _, HE1.out⟩
    rw [chk_no hs]
    clear hs hE1
    go_wp2_with fail
    go_ret2
    exact HFin.out

end Go.Proofs.YtfjbhpjgidgjaaaDoor
