/-
  The walk through HeapBack; no statement is proved here.
-/
import Derived.Test.YtlajjcboahflbaaDoorBackM
namespace Go.Proofs.YtlajjcboahflbaaDoor
open Go.RowKit

/-- A heap that was grown, apart from the blocks from lo to hi. -/
structure Ap (w wr : World) (p : Nat) (cs : Array Value) (H : Hs) (lo hi : Nat) : Prop where
  hw : ∃ F, Hw wr p 0 97 cs F H ∧ ∀ b, F b → w.heap.size ≤ b ∧ ¬ (lo ≤ b ∧ b < hi)
  pn : w.heap.size ≤ p ∧ ¬ (lo ≤ p ∧ p < hi)
  hi : hi ≤ wr.heap.size
  ext : Ext [] w wr
theorem Ap.of_gx {w wr w2 : World} {p : Nat} {cs : Array Value} {H : Hs} (h : Gx w wr p cs H) (x : Ext [] wr w2) : Ap w w2 p cs H wr.heap.size w2.heap.size := by
  obtain ⟨v, L, F, h⟩ := h
  have hp := h.hw.lt
  exact ⟨⟨F, h.hw.keep0 x, fun b hb => by have := h.fn b hb; omega⟩, ⟨h.pn, by omega⟩, Nat.le_refl _, h.ext.trans x⟩
theorem Ap.ext0 {w wr w2 : World} {p : Nat} {cs : Array Value} {H : Hs} {lo hi : Nat} (h : Ap w wr p cs H lo hi) (x : Ext [] wr w2) : Ap w w2 p cs H lo hi := by
  obtain ⟨F, h1, h2⟩ := h.hw
  exact ⟨⟨F, h1.keep0 x, h2⟩, h.pn, Nat.le_trans h.hi x.size, h.ext.trans x⟩
theorem Ap.ok {w wr : World} {p : Nat} {cs : Array Value} {H : Hs} {lo hi : Nat} (h : Ap w wr p cs H lo hi) : Hv H := by
  obtain ⟨F, h1, _⟩ := h.hw; exact h1.ok
def Kept (lo hi : Nat) (w w' : World) : Prop := ∀ k, lo ≤ k → k < hi → w'.heap[k]? = w.heap[k]?
theorem Ap.post {w wr : World} {p : Nat} {cs : Array Value} {H : Hs} {lo hi : Nat} (h : Ap w wr p cs H lo hi) {f : Nat} {args : Array Value} {H' : Hs} {r : Value} (hc : ∀ F, Hw wr p 0 97 cs F H → Calls Tryd.prog f args wr (HPost wr p 0 97 cs F H' r)) :
    Calls Tryd.prog f args wr (fun e w' => e = .returned r ∧ Ap w w' p cs H' lo hi ∧ Kept lo hi wr w') := by
  obtain ⟨F, h1, h2⟩ := h.hw
  refine (hc F h1).mono ?_
  rintro e w' ⟨rfl, F', q1, q2, q3⟩
  have hs := q2.size
  have hh := h.hi
  have he := h.ext.size
  refine ⟨rfl, ⟨⟨F', q1, fun b hb => ?_⟩, h.pn, Nat.le_trans h.hi q2.size, Fx.on h.ext q2 (fun b hb => ?_)⟩, fun k k1 k2 => q2.block k (by omega) (fun q => ?_)⟩
  · rcases q3 b hb with q | q
    · exact h2 b q
    · exact ⟨by omega, by omega⟩
  · rcases hb with rfl | q
    · exact h.pn.1
    · exact (h2 b q).1
  · rcases q with rfl | q
    · exact h.pn.2 ⟨k1, k2⟩
    · exact (h2 k q).2 ⟨k1, k2⟩
theorem Ap.alloc {w wr : World} {p : Nat} {cs : Array Value} {H : Hs} {lo hi : Nat} (h : Ap w wr p cs H lo hi) (hG : Gl w) (size tag : Int) : Calls Tryd.prog 15 #[.pointer (some ⟨p, 0, none⟩), .int .i64 size, .int .i64 tag] wr (fun e w' => e = .returned (.tuple #[.int .i64 (allocH H size tag).1, .int .i64 (allocH H size tag).2.1]) ∧ Ap w w' p cs (allocH H size tag).2.2 lo hi ∧ Kept lo hi wr w') :=
  h.post (fun _ hF => halloc_any size tag wr (hG.keep0 h.ext) hF)
theorem Ap.free {w wr : World} {p : Nat} {cs : Array Value} {H : Hs} {lo hi : Nat} (h : Ap w wr p cs H lo hi) (a : Int) : Calls Tryd.prog 19 #[.pointer (some ⟨p, 0, none⟩), .int .i64 a] wr (fun e w' => e = .returned (.int .i64 (freeH H a).1) ∧ Ap w w' p cs (freeH H a).2 lo hi ∧ Kept lo hi wr w') :=
  h.post (fun _ hF => hfree_any a wr hF)
theorem Ap.info {w wr : World} {p : Nat} {cs : Array Value} {H : Hs} {lo hi : Nat} (h : Ap w wr p cs H lo hi) (a : Int) : Calls Tryd.prog 12 #[.pointer (some ⟨p, 0, none⟩), .int .i64 a] wr (SayPost wr (infV H a (fnd H a))) := by
  obtain ⟨F, h1, _⟩ := h.hw; exact hinfo_w a wr h1
theorem Ap.whole {w wr : World} {p : Nat} {cs : Array Value} {H : Hs} {lo hi : Nat} (h : Ap w wr p cs H lo hi) : Calls Tryd.prog 11 #[.pointer (some ⟨p, 0, none⟩)] wr (WhPost wr (objs H.sp) H.sp (fr H.R)) := by
  obtain ⟨F, h1, _⟩ := h.hw; exact whole_any h1
theorem Gx.whole {w wr : World} {p : Nat} {cs : Array Value} {H : Hs} (h : Gx w wr p cs H) : Calls Tryd.prog 11 #[.pointer (some ⟨p, 0, none⟩)] wr (WhPost wr (objs H.sp) H.sp (fr H.R)) := by
  obtain ⟨v, L, F, h⟩ := h; exact whole_any h.hw
theorem Kept.refl (lo hi : Nat) (w : World) : Kept lo hi w w := fun _ _ _ => rfl
theorem Kept.trans {lo hi : Nat} {a b c : World} (h : Kept lo hi a b) (k : Kept lo hi b c) : Kept lo hi a c := fun x h1 h2 => (k x h1 h2).trans (h x h1 h2)
theorem Kept.ext0 {lo hi : Nat} {a b c : World} (h : Kept lo hi a b) (k : Ext [] b c) (hs : hi ≤ b.heap.size) : Kept lo hi a c := fun x h1 h2 => (k.block x (by omega) (by simp)).trans (h x h1 h2)
theorem Kept.own {lo hi : Nat} {a b : World} (h : Kept lo hi a b) {base e s n : Nat} {v : Value} {xs : List Value} (hr : a.ownsRow base e s v n xs) (hv : ∀ g, v.ownBlock = some g → lo ≤ g ∧ g < hi) : b.ownsRow base e s v n xs := by
  refine ⟨hr.1, ?_⟩
  rcases hr.2 with q | ⟨g, cap, cur, rfl, h1, h2, h3⟩
  · exact .inl q
  · exact .inr ⟨g, cap, cur, rfl, h1, (h g (hv g rfl).1 (hv g rfl).2).trans h2, h3⟩

theorem freeH_none {H : Hs} {a : Int} (h : fnd H a = none) : freeH H a = (4, H) := by unfold freeH; rw [h]

/-- What the law gathered lies there still. -/
structure Lies (H : Hs) (v1 v2 v3 : Value) (W : World) : Prop where
  o : Obl W v1 (objs H.sp)
  s : Spl W v2 H.sp
  r : Lst W v3 (fr H.R)
theorem Lies.keep0 {H : Hs} {v1 v2 v3 : Value} {W W' : World} (h : Lies H v1 v2 v3 W) (x : Ext [] W W') : Lies H v1 v2 v3 W' := ⟨own_keep0 h.o x, own_keep0 h.s x, h.r.keep0 x⟩

set_option maxRecDepth 100000 in
set_option maxHeartbeats 16000000 in
theorem backWalk (pages : Int) (sa : Option Addr) (c : Nat) (S : List Oq) (size tag : Int) (w : World) (hG : Gl w) (hS : Sc w sa S) :
    Calls Tryd.prog 5 #[.int .i64 pages, .slice sa S.length c, .int .i64 size, .int .i64 tag] w (SayPost w (.bool true)) := by
  have K1 := grown_x pages sa c S w hG hS
  have HG := hid hG
  clear hS hG
  generalize (growH (newH (pgsOf pages)) [] S).1 = H at *
  generalize S.length = n at *
  go_enter Tryd.func5, Tryd.ntmps5
  go_upto_region 4 with (first | (go_at_call 9; refine K1.mono ?_; clear K1; rintro e w1 ⟨p, cs, va, vn, vc, rfl, hX⟩; have K2 := awake_any w1 (HG.out.keep0 hX.ext); replace hX := hid hX) | (go_at_call 10; refine K2.mono ?_; clear K2; rintro e w2 ⟨rfl, hE2⟩; have hX2 := hid (hX.out.ext0 hE2); clear hE2) | fail "no arm")
  have K3 := hX2.out.whole
  have hok := hX2.out.ok
  clear hX
  go_upto_region 5 with (first | (go_at_call 11; refine K3.mono ?_; clear K3; rintro e w3 ⟨v1, v2, v3, rfl, hw3⟩; replace hw3 := hid hw3) | fail "no arm")
  obtain ⟨o1, o2, o3, g1, g2, g3, hE3⟩ := hw3.out
  have HL : Hid (Lies H v1 v2 v3 w3) := hid ⟨o1, o2, o3⟩
  have HV1 : Hid (∀ g, v1.ownBlock = some g → w2.heap.size ≤ g ∧ g < w3.heap.size) := fun g hg => ⟨g1 g hg, (own_lt o1 g hg).2⟩
  have HV2 : Hid (∀ g, v2.ownBlock = some g → w2.heap.size ≤ g ∧ g < w3.heap.size) := fun g hg => ⟨g2 g hg, (own_lt o2 g hg).2⟩
  have HV3 : Hid (∀ g, v3.ownBlock = some g → w2.heap.size ≤ g ∧ g < w3.heap.size) := fun g hg => ⟨g3 g hg, (own_lt o3 g hg).2⟩
  have hX3 := hid (Ap.of_gx hX2.out hE3)
  generalize w2.heap.size = lo at *
  generalize hhi : w3.heap.size = hi at *
  have HKL : Hid (∀ u, Kept lo hi w3 u → Lies H v1 v2 v3 u) := fun u hu => ⟨hu.own HL.out.o HV1.out, hu.own HL.out.s HV2.out, hu.own HL.out.r HV3.out⟩
  have K4 := hX3.out.alloc HG.out size tag
  -- how the law ends
  have HEnd : Hid (∀ (H2 : Hs) (u u1 : World) (y1 y2 y3 : Value), Lies H v1 v2 v3 u → Obl u1 y1 (objs H2.sp) ∧ Spl u1 y2 H2.sp ∧ Lst u1 y3 (fr H2.R) → Ext [] u u1 → objs H2.sp = objs H.sp → H2.sp.length = H.sp.length → spcs H2.sp = spcs H.sp → H2.R = H.R →
      ∀ z, Ext [] u1 z → Calls Tryd.prog 20 #[v1, y1] z (SayPost z (.bool true)) ∧ Calls Tryd.prog 21 #[v2, y2] z (SayPost z (.bool true)) ∧ Calls Tryd.prog 22 #[v3, y3] z (SayPost z (.bool true))) := by
    intro H2 u u1 y1 y2 y3 hl ⟨q1, q2, q3⟩ hx e1 e2 e3 e4 z hz
    have l1 := hok.objs
    have l2 := hok.splen
    have l3 := hok.inv.len
    have l4 := hok.P1
    have l5 := fr_len H.R
    have hl' := (hl.keep0 hx).keep0 hz
    refine ⟨sameObjs_t _ _ (objs H.sp) z hl'.o (by rw [← e1]; exact own_keep0 q1 hz) (by omega), sameSpans_t _ _ H.sp z hl'.s (by unfold Spl; rw [← e2, ← e3]; exact own_keep0 q2 hz) (by omega), sameRuns2_t _ _ (fr H.R) z hl'.r (by rw [← e4]; exact q3.keep0 hz) (by omega)⟩
  obtain ⟨a1, c1, rfl, _⟩ := own_slice o1
  obtain ⟨a2, c2, rfl, _⟩ := own_slice o2
  obtain ⟨a3, c3, rfl, _⟩ := own_slice o3
  clear o1 o2 o3 g1 g2 g3 hE3 hw3 hX2 hhi HL HV1 HV2 HV3
  generalize hn1 : (objs H.sp).length = n1 at *
  generalize hn2 : H.sp.length = n2 at *
  generalize hn3 : (fr H.R).length = n3 at *
  have HN := hid hn2
  clear hn1 hn2 hn3
  have hhi3 := hX3.out.hi
  by_cases her : (allocH H size tag).2.1 = 0
  rotate_left
  · obtain ⟨_, hH1⟩ := alloc_zero H size tag her
    rw [hH1] at K4
    have hb : ((allocH H size tag).2.1 == 0) = false := by simpa using her
    clear hok her hH1
    generalize (allocH H size tag).2.1 = er at *
    generalize (allocH H size tag).1 = a at *
    go_upto_region 10 with (first | (go_at_call 15; refine K4.mono ?_; clear K4; rintro e w4 ⟨rfl, hX4, hk4⟩; replace hX4 := hid hX4; replace hk4 := hid hk4) | fail "no arm")
    have K5 := hX4.out.whole
    go_upto_region 11 with (first | (go_at_call 11; refine K5.mono ?_; clear K5; rintro e w5 ⟨y1, y2, y3, rfl, hw5⟩; replace hw5 := hid hw5) | fail "no arm")
    have KE := hid (HEnd.out H w4 w5 y1 y2 y3 (HKL.out w4 hk4.out) ⟨hw5.out.1, hw5.out.2.1, hw5.out.2.2.1⟩ hw5.out.2.2.2.2.2.2 rfl HN.out rfl rfl)
    have HE5 := hid (hX4.out.ext.trans hw5.out.2.2.2.2.2.2)
    clear HEnd HKL hw5 hX4 hX3 hk4 hb
    go_wp2_with fail
    refine (KE.out w5 (Ext.refl _ _)).1.mono ?_
    rintro e w6 ⟨rfl, hE6⟩
    replace hE6 := hid hE6
    go_wp2_with fail
    refine (KE.out w6 hE6.out).2.1.mono ?_
    rintro e w7 ⟨rfl, hE7⟩
    replace hE7 := hid (hE6.out.trans hE7)
    go_wp2_with fail
    refine (KE.out w7 hE7.out).2.2.mono ?_
    rintro e w8 ⟨rfl, hE8⟩
    replace hE8 := hid (hE7.out.trans hE8)
    go_wp2_with fail
    go_ret
    exact ⟨rfl, HE5.out.trans hE8.out⟩
  have HB : Hid (Hv (allocH H size tag).2.2 → (freeH (allocH H size tag).2.2 (allocH H size tag).1).1 = 0 ∧ Back H (allocH H size tag).2.2 (freeH (allocH H size tag).2.2 (allocH H size tag).1).2 (allocH H size tag).1 size tag) := fun h1 => back_heap hok her h1
  rw [her] at K4
  generalize (allocH H size tag).2.2 = H1 at *
  generalize (allocH H size tag).1 = a at *
  clear her hok
  go_upto_region 7 with (first | (go_at_call 15; refine K4.mono ?_; clear K4; rintro e w4 ⟨rfl, hX4, hk4⟩; replace hX4 := hid hX4; replace hk4 := hid hk4) | fail "no arm")
  obtain ⟨hf0, hB⟩ := HB.out hX4.out.ok
  have K5 := hX4.out.info a
  obtain ⟨k, j, i1, i2, i3⟩ := hB.info
  have hinf : infV H1 a (fnd H1 a) = .tuple #[.agg #[.int .i64 a, .int .i64 size, .int .i64 tag, .slice none 0 0], .int .i64 0] := by
    rw [i1]; simp only [infV]; rw [if_pos i2, i3]; rfl
  rw [hinf] at K5
  have HB2 := hid hB
  have HF0 := hid hf0
  clear hB hf0 i1 i2 i3 hinf HB hX3
  go_upto_region 8 with (first | (go_at_call 12; refine K5.mono ?_; clear K5; rintro e w5 ⟨rfl, hE5⟩; replace hE5 := hid hE5) | fail "no arm")
  obtain ⟨w6, hw6⟩ : ∃ w6, w6 = w5.alloc (.cells #[.int .i64 a, .int .i64 size, .int .i64 tag, .slice none 0 0] 34) := ⟨_, rfl⟩
  have hb6 : w6.heap[w5.heap.size]? = some (.cells #[.int .i64 a, .int .i64 size, .int .i64 tag, .slice none 0 0] 34 (0, 0)) := by rw [hw6]; exact heap_alloc_new _ _
  have hE6 : Hid (Ext [] w4 w6) := by rw [hw6]; exact hE5.out.trans (Ext.alloc [] _ _)
  have t0 : w6.cell? ⟨w5.heap.size, 0, none⟩ = some (.int .i64 a) := by rw [cell_of_row _ _ _ _ _ _ hb6]; rfl
  have t1 : w6.cell? ⟨w5.heap.size, 1, none⟩ = some (.int .i64 size) := by rw [cell_of_row _ _ _ _ _ _ hb6]; rfl
  have t2 : w6.cell? ⟨w5.heap.size, 2, none⟩ = some (.int .i64 tag) := by rw [cell_of_row _ _ _ _ _ _ hb6]; rfl
  rw [← hw6]
  clear hw6 hb6
  have hX6 := hid (hX4.out.ext0 hE6.out)
  have hk6 := hid (hk4.out.ext0 hE6.out hX4.out.hi)
  have K6 := hX6.out.free a
  rw [HF0.out] at K6
  have HG2 : Hid (freeH (freeH H1 a).2 a = (4, (freeH H1 a).2)) := freeH_none HB2.out.gone
  generalize (freeH H1 a).2 = H2 at *
  clear HF0 hX4 hk4 hE5 hE6
  go_wp2_with fail
  refine K6.mono ?_
  clear K6
  rintro e w7 ⟨rfl, hX7, hk7⟩
  have K7 := hX7.free a
  rw [HG2.out] at K7
  replace hk7 := hid (hk6.out.trans hk7)
  clear hX7 HG2 hX6 hk6 t0 t1 t2
  go_wp2_with fail
  refine K7.mono ?_
  clear K7
  rintro e w8 ⟨rfl, hX8, hk8⟩
  have K8 := hX8.whole
  have hx8 := hid hX8.ext
  replace hk8 := hid (hk7.out.trans hk8)
  clear hX8 hk7
  go_upto_region 11 with (first | (go_at_call 11; refine K8.mono ?_; clear K8; rintro e w9 ⟨y1, y2, y3, rfl, hw9⟩; replace hw9 := hid hw9) | fail "no arm")
  have KE := hid (HEnd.out H2 w8 w9 y1 y2 y3 (HKL.out w8 hk8.out) ⟨hw9.out.1, hw9.out.2.1, hw9.out.2.2.1⟩ hw9.out.2.2.2.2.2.2 HB2.out.obj (HB2.out.len.trans HN.out) HB2.out.spc HB2.out.run)
  have HE9 := hid (hx8.out.trans hw9.out.2.2.2.2.2.2)
  clear HEnd HKL hw9 hk8 HB2
  go_wp2_with fail
  refine (KE.out w9 (Ext.refl _ _)).1.mono ?_
  rintro e w10 ⟨rfl, hE10⟩
  replace hE10 := hid hE10
  go_wp2_with fail
  refine (KE.out w10 hE10.out).2.1.mono ?_
  rintro e w11 ⟨rfl, hE11⟩
  replace hE11 := hid (hE10.out.trans hE11)
  go_wp2_with fail
  refine (KE.out w11 hE11.out).2.2.mono ?_
  rintro e w12 ⟨rfl, hE12⟩
  replace hE12 := hid (hE11.out.trans hE12)
  go_wp2_with fail
  go_ret
  exact ⟨rfl, HE9.out.trans hE12.out⟩

end Go.Proofs.YtlajjcboahflbaaDoor
