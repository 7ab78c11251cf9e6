/-
  The walk through HeapWords; no statement is proved here.
-/
import Derived.Test.YtlajjcboahflbaaDoorAMath
namespace Go.Proofs.YtlajjcboahflbaaDoor
open Go.RowKit

def offN (off : Int) : Int := if off < 0 ∨ 70000 < off then 0 else off

theorem hload_w {p ox : Nat} {T : TypeId} {cs : Array Value} {F : Nat → Prop} {H : Hs} (a : Int) (w : World) (hH : Hw w p ox T cs F H) : Calls Tryd.prog 23 #[.pointer (some ⟨p, ox, none⟩), .int .i64 a] w (SayPost w (ldV H a)) := by
  obtain ⟨_, _, _, _, _, h⟩ := hH; exact (hload_any a w h).mono (fun e w' q => ⟨q.1, dr_ext q.2⟩)
theorem hread_w {p ox : Nat} {T : TypeId} {cs : Array Value} {F : Nat → Prop} {H : Hs} (a n : Int) (w : World) (hH : Hw w p ox T cs F H) : Calls Tryd.prog 13 #[.pointer (some ⟨p, ox, none⟩), .int .i64 a, .int .i64 n] w (RdPost w (rdX H a n) (witE H a n)) := by
  obtain ⟨_, _, _, _, _, h⟩ := hH; exact hread_any a n w h
theorem hinfo_w {p ox : Nat} {T : TypeId} {cs : Array Value} {F : Nat → Prop} {H : Hs} (a : Int) (w : World) (hH : Hw w p ox T cs F H) : Calls Tryd.prog 12 #[.pointer (some ⟨p, ox, none⟩), .int .i64 a] w (SayPost w (infV H a (fnd H a))) := by
  obtain ⟨_, _, _, _, _, h⟩ := hH; exact info_any a w h
theorem hbase_w {p ox : Nat} {T : TypeId} {cs : Array Value} {F : Nat → Prop} {H : Hs} (a : Int) (w : World) (hH : Hw w p ox T cs F H) : Calls Tryd.prog 18 #[.pointer (some ⟨p, ox, none⟩), .int .i64 a] w (SayPost w (baV H (fnd H a))) := by
  obtain ⟨_, _, _, _, _, h⟩ := hH; exact (base_any a w h).mono (fun e w' q => ⟨q.1, dr_ext q.2⟩)

/-- A heap that was grown, whatever was given. -/
def Gx (w wr : World) (p : Nat) (cs : Array Value) (H : Hs) : Prop := ∃ v L F, GwI w wr p cs H v L F
theorem Gx.ext0 {w wr w2 : World} {p : Nat} {cs : Array Value} {H : Hs} (h : Gx w wr p cs H) (x : Ext [] wr w2) : Gx w w2 p cs H := by
  obtain ⟨v, L, F, h⟩ := h; exact ⟨v, L, F, h.ext0 x⟩
theorem Gx.ext {w wr : World} {p : Nat} {cs : Array Value} {H : Hs} (h : Gx w wr p cs H) : Ext [] w wr := by
  obtain ⟨v, L, F, h⟩ := h; exact h.ext
theorem Gx.ok {w wr : World} {p : Nat} {cs : Array Value} {H : Hs} (h : Gx w wr p cs H) : Hv H := by
  obtain ⟨v, L, F, h⟩ := h; exact h.hw.ok
theorem Gx.alloc {w wr : World} {p : Nat} {cs : Array Value} {H : Hs} (h : Gx w wr p cs H) (hG : Gl w) (size tag : Int) : Calls Tryd.prog 15 #[.pointer (some ⟨p, 0, none⟩), .int .i64 size, .int .i64 tag] wr (fun e w' => e = .returned (.tuple #[.int .i64 (allocH H size tag).1, .int .i64 (allocH H size tag).2.1]) ∧ Gx w w' p cs (allocH H size tag).2.2) := by
  obtain ⟨v, L, F, h⟩ := h
  refine (halloc_any size tag wr (hG.keep0 h.ext) h.hw).mono ?_
  rintro e w2 ⟨rfl, q⟩
  obtain ⟨F', h2⟩ := h.op (r := .tuple #[]) (e := .returned (.tuple #[])) ⟨rfl, q⟩
  exact ⟨rfl, v, L, F', h2⟩
theorem Gx.free {w wr : World} {p : Nat} {cs : Array Value} {H : Hs} (h : Gx w wr p cs H) (a : Int) : Calls Tryd.prog 19 #[.pointer (some ⟨p, 0, none⟩), .int .i64 a] wr (fun e w' => e = .returned (.int .i64 (freeH H a).1) ∧ Gx w w' p cs (freeH H a).2) := by
  obtain ⟨v, L, F, h⟩ := h
  refine (hfree_any a wr h.hw).mono ?_
  rintro e w2 ⟨rfl, q⟩
  obtain ⟨F', h2⟩ := h.op (r := .tuple #[]) (e := .returned (.tuple #[])) ⟨rfl, q⟩
  exact ⟨rfl, v, L, F', h2⟩
theorem Gx.store {w wr : World} {p : Nat} {cs : Array Value} {H : Hs} (h : Gx w wr p cs H) (a x : Int) (hx : 0 ≤ x ∧ x < 18446744073709551616) : Calls Tryd.prog 24 #[.pointer (some ⟨p, 0, none⟩), .int .i64 a, .int .u64 x] wr (fun e w' => e = .returned (.int .i64 (witE H a 8)) ∧ Gx w w' p cs (putH H a 8 (byteOf x))) := by
  obtain ⟨v, L, F, h⟩ := h
  refine (hstore_w a x hx wr h.hw).mono ?_
  rintro e w2 ⟨rfl, q⟩
  obtain ⟨F', h2⟩ := h.op (r := .tuple #[]) (e := .returned (.tuple #[])) ⟨rfl, q⟩
  exact ⟨rfl, v, L, F', h2⟩
theorem Gx.write {w wr : World} {p : Nat} {cs : Array Value} {H : Hs} (h : Gx w wr p cs H) (a : Int) (sa : Option Addr) (c : Nat) (xs : List Int) (hs : Sl wr sa xs) : Calls Tryd.prog 16 #[.pointer (some ⟨p, 0, none⟩), .int .i64 a, .slice sa xs.length c] wr (fun e w' => e = .returned (.int .i64 (witE H a xs.length)) ∧ Gx w w' p cs (putH H a xs.length (fun j => xs.getD j 0))) := by
  obtain ⟨v, L, F, h⟩ := h
  refine (hwrite_w a sa xs.length c xs wr hs rfl h.hw).mono ?_
  rintro e w2 ⟨rfl, q⟩
  obtain ⟨F', h2⟩ := h.op (r := .tuple #[]) (e := .returned (.tuple #[])) ⟨rfl, q⟩
  exact ⟨rfl, v, L, F', h2⟩

theorem grown_x (pages : Int) (sa : Option Addr) (c : Nat) (S : List Oq) (w : World) (hG : Gl w) (hS : Sc w sa S) :
    Calls Tryd.prog 9 #[.int .i64 pages, .slice sa S.length c] w (fun e w' => ∃ p cs va n vc, e = .returned (.tuple #[.pointer (some ⟨p, 0, none⟩), .slice va n vc]) ∧ Gx w w' p cs (growH (newH (pgsOf pages)) [] S).1) := by
  refine (grown_any pages sa c S w hG hS).mono ?_
  rintro e w1 ⟨p, cs, F, v, rfl, hI⟩
  obtain ⟨va, vc, rfl, _⟩ := hI.gv.slice
  exact ⟨p, cs, va, _, vc, rfl, _, _, _, hI⟩

set_option maxRecDepth 100000 in
set_option maxHeartbeats 16000000 in
theorem wordsWalk (pages : Int) (sa : Option Addr) (c : Nat) (S : List Oq) (size off x : Int) (w : World) (hG : Gl w) (hS : Sc w sa S) (hx : 0 ≤ x ∧ x < 18446744073709551616) :
    Calls Tryd.prog 8 #[.int .i64 pages, .slice sa S.length c, .int .i64 size, .int .i64 off, .int .u64 x] w (SayPost w (.bool true)) := by
  have K1 := grown_x pages sa c S w hG hS
  have HG := hid hG
  clear hS hG
  generalize (growH (newH (pgsOf pages)) [] S).1 = gr at *
  have HO : Hid (0 ≤ offN off ∧ offN off ≤ 70000 ∧ ((off < 0 ∨ 70000 < off) → offN off = 0) ∧ (¬ (off < 0 ∨ 70000 < off) → off = offN off)) := by
    unfold offN
    refine ⟨?_, ?_, fun h => if_pos h, fun h => (if_neg h).symm⟩ <;> split <;> omega
  generalize S.length = n at *
  go_enter Tryd.func8, Tryd.ntmps8
  go_upto_region 4 with (first | (go_at_call 9; refine K1.mono ?_; clear K1; rintro e w1 ⟨p, cs, va, vn, vc, rfl, hX⟩; have K2 := awake_any w1 (HG.out.keep0 hX.ext); replace hX := hid hX) | (go_at_call 10; refine K2.mono ?_; clear K2; rintro e w2 ⟨rfl, hE2⟩; have hX2 := hid (hX.out.ext0 hE2); clear hE2) | fail "no arm")
  have K3 := hX2.out.alloc HG.out size 1
  have hok := hX2.out.ok
  clear hX
  by_cases her : (allocH gr size 1).2.1 = 0
  rotate_left
  · obtain ⟨ha, _⟩ := alloc_zero gr size 1 her
    rw [ha] at K3
    have hb : ((allocH gr size 1).2.1 == 0) = false := by simpa using her
    clear hok her ha
    generalize (allocH gr size 1).2.2 = H1 at *
    generalize (allocH gr size 1).2.1 = er at *
    go_wp2_with (first | (go_at_call 15; refine K3.mono ?_; clear K3; rintro e w3 ⟨rfl, hX3⟩; replace hX3 := hid hX3.ext) | fail "no arm")
    go_ret
    exact ⟨rfl, hX3.out⟩
  obtain ⟨hOk, _, k, j, y, hy, hyS, hya⟩ := alloc_found hok her
  have hag := alloc_gok hok size 1
  rw [her] at K3
  generalize (allocH gr size 1).2.2 = H1 at *
  generalize (allocH gr size 1).1 = a at *
  clear her
  have HF : Hid (Hv H1 → ∀ b, a ≤ b → b < a + size → fnd H1 b = some (k, j) ∧ (adrAt H1 k j : Int) = a ∧ slotAt H1 k j = (size, 1)) := fun hv b h1 h2 => found_at hv hy hyS hya h1 h2
  have hs1 := hOk.1
  have hs2 := hOk.2
  clear hy hyS hya hok hOk
  go_upto_region 7 with (first | (go_at_call 15; refine K3.mono ?_; clear K3; rintro e w3 ⟨rfl, hX3⟩; replace hX3 := hid hX3) | fail "no arm")
  go_cut [53] from 48 (fun q wc => q = .bool (decide (off < 0 ∨ 70000 < off)) ∧ wc = w3)
  case first =>
    by_cases h1 : off < 0
    · have HT : Hid (decide (off < 0 ∨ 70000 < off) = true) := by
        show _ = _
        simp [h1]
      go_wp2_with fail
      go_meet
      exact ⟨by rw [HT.out], rfl⟩
    · by_cases h2 : 70000 < off
      · have HT : Hid (decide (off < 0 ∨ 70000 < off) = true) := by
          show _ = _
          simp [h2]
        go_wp2_with fail
        go_meet
        exact ⟨by rw [HT.out], rfl⟩
      · have HT : Hid (decide (off < 0 ∨ 70000 < off) = false) := by
          show _ = _
          simp [h1, h2]
        go_wp2_with fail
        go_meet
        exact ⟨by rw [HT.out], rfl⟩
  case rest =>
    obtain ⟨rfl, rfl⟩ := hcut
    have HG1 : Hid ((decide (off < 0 ∨ 70000 < off) = true → (0 : Int) = offN off) ∧ (decide (off < 0 ∨ 70000 < off) = false → off = offN off)) :=
      ⟨fun h => (HO.out.2.2.1 (of_decide_eq_true h)).symm, fun h => HO.out.2.2.2 (of_decide_eq_false h)⟩
    have hn1 := HO.out.1
    have hn2 := HO.out.2.1
    clear HO
    generalize decide (off < 0 ∨ 70000 < off) = bb1 at *
    generalize offN off = o at *
    go_upto_if 53 with fail
    go_cut [3] from 48 (fun q wd => q = .int .i64 o ∧ wd = wc)
    case first =>
      cases bb1
      · have h := HG1.out.2 rfl
        have H := hid h
        clear h
        go_wp2_with fail
        go_meet
        exact ⟨by rw [← H.out], rfl⟩
      · have h := HG1.out.1 rfl
        have H := hid h
        clear h
        go_wp2_with fail
        go_meet
        exact ⟨by rw [← H.out], rfl⟩
    case rest =>
      obtain ⟨rfl, rfl⟩ := hcut
      clear HG1
      have hv1 := hX3.out.ok
      have K4 := hX3.out.store (a + o) x hx
      have e1 : IntKind.i64.wrap (a + o) = a + o := by rw [IntKind.wrap_i64]; omega
      have e2 : IntKind.i64.wrap (o + 8) = o + 8 := by rw [IntKind.wrap_i64]; omega
      obtain ⟨H2, hH2⟩ : ∃ H2, H2 = putH H1 (a + o) 8 (byteOf x) := ⟨_, rfl⟩
      rw [← hH2] at K4
      have hw2 : witE H2 (a + o) 8 = witE H1 (a + o) 8 := by rw [hH2, witE_put]
      by_cases hfit : o + 8 ≤ size
      · obtain ⟨f1, f2, f3⟩ := HF.out hv1 (a + o) (by omega) (by omega)
        have hw0 : witE H1 (a + o) 8 = 0 := by
          unfold witE
          rw [if_neg (by omega), f1]
          simp only
          rw [if_neg (by rw [f2, f3]; simp only; omega)]
        rw [hw0] at K4 hw2
        obtain ⟨A, M, hA, hM, hlen⟩ := hv1.wit hw0
        obtain rfl : M = 8 := by omega
        have hB2 : H2.B = put H1.B A (byteOf x) 8 := by rw [hH2]; unfold putH; rw [if_pos hw0, hA]; rfl
        have hpw : (2 : Int) ^ (8 * 8) = 18446744073709551616 := by decide
        have hx8 : x % 2 ^ (8 * 8) = x := Int.emod_eq_of_lt hx.1 (by rw [hpw]; exact hx.2)
        have hnum : numAt H2.B A 8 = x := by rw [hB2, numAt_put hlen (by omega) hx.1, hx8]
        have KL : Hid (∀ u, Gx w u p cs H2 → Calls Tryd.prog 23 #[.pointer (some ⟨p, 0, none⟩), .int .i64 (a + o)] u (SayPost u (.tuple #[.int .u64 x, .int .i64 0]))) := fun u hu => by
          obtain ⟨v, L, F, hu⟩ := hu
          have := hload_w (a + o) u hu.hw
          unfold ldV at this
          rw [if_pos hw2, hA, Int.toNat_natCast, hnum] at this
          rw [hA]; exact this
        have KR : Hid (∀ u, Gx w u p cs H2 → Calls Tryd.prog 13 #[.pointer (some ⟨p, 0, none⟩), .int .i64 (a + o), .int .i64 8] u (fun e w' => ∃ g, e = .returned (.tuple #[.slice (some ⟨g, 0, none⟩) 8 8, .int .i64 0]) ∧ Hid (Row w' g (cut H2.B A 8) ∧ Ext [] u w'))) := fun u hu => by
          obtain ⟨v, L, F, hu⟩ := hu
          refine (hread_w (a + o) 8 u hu.hw).mono ?_
          rintro e w' ⟨ra, he, hr, hE⟩
          unfold rdX at he hr
          rw [if_pos hw2, hA, Int.toNat_natCast, show Int.toNat 8 = 8 from rfl] at he hr
          rw [length_cut] at he
          rcases hr with ⟨_, q⟩ | ⟨g, rfl, _, q⟩
          · have := congrArg List.length q
            rw [length_cut] at this; simp at this
          · rw [← hA, hw2] at he
            exact ⟨g, he, q, hE⟩
        have hbc : Bts (cut H2.B A 8) := bts_cut (by rw [hB2]; exact hv1.bt.put _ _ _ hlen (fun j _ => by unfold byteOf; exact ⟨Int.emod_nonneg _ (by decide), Int.emod_lt_of_pos _ (by decide)⟩)) _ _
        have KQ : Hid (∀ u g, Row u g (cut H2.B A 8) → Calls Tryd.prog 27 #[.slice (some ⟨g, 0, none⟩) 8 8, .int .i64 0, .int .i64 8] u (fun e w' => e = .returned (.tuple #[.int .u64 x, .int .i64 0]) ∧ w' = u)) := fun u g hg => by
          have := rload_ok g 8 (cut H2.B A 8) 8 0 8 u hg hbc (length_cut _ _ _) (by omega) (by omega) (.inr (.inr (.inr rfl)))
          rw [numAt_cut, hnum] at this
          exact this
        clear hpw hw0 hw2 f1 f2 f3 hA hM hlen hB2 hx8 hnum hbc hH2 HF hv1 hs1 hs2 hag hX2
        go_wp2_with (first | (go_at_call 24; refine K4.mono ?_; clear K4; rintro e w4 ⟨rfl, hX4⟩; have K5 := KL.out w4 hX4; replace hX4 := hid hX4) | (go_at_call 23; refine K5.mono ?_; clear K5; rintro e w5 ⟨rfl, hE5⟩; have hX5 := hid (hX4.out.ext0 hE5); clear hE5; have K6 := KR.out w5 hX5.out) | (go_at_call 13; refine K6.mono ?_; clear K6; rintro e w6 ⟨g, rfl, h6⟩; have K7 := KQ.out w6 g h6.out.1) | (go_at_call 27; refine met K7 ?_) | fail "no arm")
        go_ret
        exact ⟨rfl, (hX5.out.ext0 h6.out.2).ext⟩
      · obtain ⟨g1, g2, g3⟩ := HF.out hv1 a (by omega) (by omega)
        have hv2 : witE H1 (a + o) 8 = 0 ∨ witE H1 (a + o) 8 = 5 := by
          rcases witE_vals H1 (a + o) 8 with h | h | h
          · exact .inl h
          · unfold witE at h; rw [if_neg (by omega)] at h; split at h
            · simp at h
            · split at h <;> simp at h
          · exact .inr h
        -- what Base answers
        obtain ⟨bv, bj, hbase, hcase⟩ : ∃ bv bj : Int, baV H2 (fnd H2 (a + o)) = .tuple #[.int .i64 bv, .int .i64 bj] ∧ (witE H1 (a + o) 8 = 5 ∨ (witE H1 (a + o) 8 = 0 ∧ bj = 0 ∧ bv ≠ a)) := by
          rw [hH2, baV_put, fnd_put]
          cases hf : fnd H1 (a + o) with
          | none =>
            refine ⟨0, 4, rfl, .inl ?_⟩
            unfold witE
            rw [if_neg (by omega), hf]
          | some q =>
            obtain ⟨k', j'⟩ := q
            refine ⟨_, _, rfl, ?_⟩
            rcases hv2 with h | h
            · refine .inr ⟨h, rfl, fun hq => ?_⟩
              obtain ⟨_, k2, j2, hf2, hle⟩ := witE_ok h
              rw [hf] at hf2
              cases hf2
              obtain ⟨hs', q1, q2⟩ := hv1.hit hf
              have hpos : 0 < (slotAt H1 k' j').1 := by omega
              have hsame := hv1.hit_of hs'.kl hs'.jl (a := adrAt H1 k' j') (Int.le_refl _) (by omega)
              rw [hq, g1] at hsame
              cases hsame
              rw [g3] at hle q2
              simp only at hle
              omega
            · exact .inl h
        have KL : Hid (∀ u, Gx w u p cs H2 → Calls Tryd.prog 23 #[.pointer (some ⟨p, 0, none⟩), .int .i64 (a + o)] u (fun e w' => ∃ X, e = .returned (.tuple #[.int .u64 X, .int .i64 (witE H1 (a + o) 8)]) ∧ Ext [] u w')) := fun u hu => by
          obtain ⟨v, L, F, hu⟩ := hu
          refine (hload_w (a + o) u hu.hw).mono ?_
          rintro e w' ⟨rfl, hE⟩
          unfold ldV
          rw [hw2]
          split
          · rename_i h; rw [h]; exact ⟨_, rfl, hE⟩
          · exact ⟨_, rfl, hE⟩
        have KR : Hid (∀ u, Gx w u p cs H2 → Calls Tryd.prog 13 #[.pointer (some ⟨p, 0, none⟩), .int .i64 (a + o), .int .i64 8] u (fun e w' => ∃ ra rl, e = .returned (.tuple #[.slice ra rl rl, .int .i64 (witE H1 (a + o) 8)]) ∧ Ext [] u w')) := fun u hu => by
          obtain ⟨v, L, F, hu⟩ := hu
          refine (hread_w (a + o) 8 u hu.hw).mono ?_
          rintro e w' ⟨ra, he, hr, hE⟩
          rw [hw2] at he
          exact ⟨ra, _, he, hE⟩
        have KI : Hid (∀ u, Gx w u p cs H2 → Calls Tryd.prog 12 #[.pointer (some ⟨p, 0, none⟩), .int .i64 a] u (SayPost u (.tuple #[.agg #[.int .i64 a, .int .i64 size, .int .i64 1, .slice none 0 0], .int .i64 0]))) := fun u hu => by
          obtain ⟨v, L, F, hu⟩ := hu
          have := hinfo_w a u hu.hw
          rw [hH2, infV_put, fnd_put, g1] at this
          unfold infV at this
          simp only [g2, g3, if_true] at this
          exact this
        have KB : Hid (∀ u, Gx w u p cs H2 → Calls Tryd.prog 18 #[.pointer (some ⟨p, 0, none⟩), .int .i64 (a + o)] u (SayPost u (.tuple #[.int .i64 bv, .int .i64 bj]))) := fun u hu => by
          obtain ⟨v, L, F, hu⟩ := hu
          have := hbase_w (a + o) u hu.hw
          rw [hbase] at this
          exact this
        have hnf : ¬ o + 8 ≤ size := hfit
        have HX2 := hid hX2.out.ext
        clear hw2 hv2 hbase g1 g2 g3 hH2 HF hv1 hs1 hs2 hag hX2 hX3 hfit
        generalize witE H1 (a + o) 8 = er at *
        have hee : (er == er) = true := by simp
        go_upto_region 18 with (first | (go_at_call 24; refine K4.mono ?_; clear K4; rintro e w4 ⟨rfl, hX4⟩; have K5 := KL.out w4 hX4; replace hX4 := hid hX4) | (go_at_call 23; refine K5.mono ?_; clear K5; rintro e w5 ⟨X, rfl, hE5⟩; have hX5 := hid (hX4.out.ext0 hE5); clear hE5; have K6 := KR.out w5 hX5.out) | (go_at_call 13; refine K6.mono ?_; clear K6; rintro e w6 ⟨ra, rl, rfl, hE6⟩; have hX6 := hid (hX5.out.ext0 hE6); clear hE6; have K7 := KI.out w6 hX6.out) | (go_at_call 12; refine K7.mono ?_; clear K7; rintro e w7 ⟨rfl, hE7⟩; have hX7 := hid (hX6.out.ext0 hE7); clear hE7) | fail "no arm")
        have hX7' := hX7.out.ext0 (Ext.alloc [] w7 (.cells #[.int .i64 a, .int .i64 size, .int .i64 1, .slice none 0 0] 34))
        have d0 : (w7.alloc (.cells #[.int .i64 a, .int .i64 size, .int .i64 1, .slice none 0 0] 34)).cell? ⟨w7.heap.size, 0, none⟩ = some (.int .i64 a) := by rw [cell_of_row _ _ _ _ _ _ (heap_alloc_new w7 _)]; rfl
        have d1 : (w7.alloc (.cells #[.int .i64 a, .int .i64 size, .int .i64 1, .slice none 0 0] 34)).cell? ⟨w7.heap.size, 1, none⟩ = some (.int .i64 size) := by rw [cell_of_row _ _ _ _ _ _ (heap_alloc_new w7 _)]; rfl
        have K8 := KB.out _ hX7'
        replace hX7' := hid hX7'
        clear KB KI KR KL hX7 hX6 hX5 hX4
        generalize w7.alloc (.cells #[.int .i64 a, .int .i64 size, .int .i64 1, .slice none 0 0] 34) = w8 at *
        generalize w7.heap.size = z7 at *
        have haa : (a == a) = true := by simp
        have hss : (size == size) = true := by simp
        go_upto_region 19 with (first | (go_at_call 18; refine K8.mono ?_; clear K8; rintro e w9 ⟨rfl, hE9⟩; have c0 := hE9.cell d0 (by simp); have c1 := hE9.cell d1 (by simp); have hX9 := hid (hX7'.out.ext0 hE9).ext; clear hE9 d0 d1) | fail "no arm")
        rcases hcase with rfl | ⟨rfl, rfl, hne⟩
        · by_cases hb : bj = 0
          · subst hb
            by_cases hb2 : bv = a
            · subst hb2
              go_wp2_with fail
              go_ret
              exact ⟨rfl, hX9.out⟩
            · have hb3 : (bv == a) = false := by simpa using hb2
              go_wp2_with fail
              go_ret
              exact ⟨rfl, hX9.out⟩
          · have hb3 : (bj == 0) = false := by simpa using hb
            go_wp2_with fail
            go_ret
            exact ⟨rfl, hX9.out⟩
        · have hb3 : (bv != a) = true := by simpa using hne
          go_wp2_with fail
          go_ret
          exact ⟨rfl, hX9.out⟩

end Go.Proofs.YtlajjcboahflbaaDoor
