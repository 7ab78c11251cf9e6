/-
  DRea: joined by program; no statement is proved here.
-/
import Derived.Test.YtkfagfdefkaenaaDoorZT
/-
  A directory is read out of its words; no statement is proved here.
-/
namespace Go.Proofs.YtkfagfdefkaenaaDoor
open Go.RowKit Go.Shelf
open Pr (Gp GpI sq pl)
attribute [local go_sem] Oper.semAt_some run_store_func

theorem CpI.keepP {W0 wr wv : World} {zo g3 c3 m dp k p : Nat} {L : List Tq} {S : List Nat} {tv : Value} {cs : Array Value} (h : CpI W0 wr zo g3 c3 m dp k L S tv) (hp : wr.heap[p]? = some (.cells cs 108 (0, 0))) (e : Ext [p] wr wv) (e0 : Ext [] W0 wv) : CpI W0 wv zo g3 c3 m dp k L S tv := by
  obtain ⟨h1, ⟨xs, h2, h3, h4⟩, h5, ⟨cur, h6⟩, h7, h8, h9⟩ := h
  have hne : ∀ (b : Nat) (cs' : Array Value) (ty : TypeId), wr.heap[b]? = some (.cells cs' ty (0, 0)) → ty ≠ 108 → b ∉ [p] := fun b cs' ty hb hty => by
    rw [List.mem_singleton]; rintro rfl; rw [hp] at hb; cases hb; exact hty rfl
  refine ⟨e.keep h1 (hne _ _ _ h1 (by decide)), ⟨xs, own_keep h2 e ?_, h3, fun j t hj => ?_⟩, h5.keep e (hne _ _ _ h6 (by decide)), ⟨cur, e.keep h6 (hne _ _ _ h6 (by decide))⟩, h7, e0, h9⟩
  · intro b hb
    rw [List.mem_singleton] at hb
    subst hb
    exact own_ne h2 hp (by decide)
  · obtain ⟨g, c, e1, e2, e3⟩ := h4 j t hj
    obtain ⟨c', e', _⟩ := id e3
    exact ⟨g, c, e1, e2, e3.keep e (hne _ _ _ e' (by decide))⟩
theorem Rdr.row {w0 w : World} {p : Nat} {X : List Nat} (h : Rdr w0 w p X) : ∃ cs, w.heap[p]? = some (.cells cs 108 (0, 0)) := by
  obtain ⟨_, _, b, o, n, c, h1, _⟩ := h
  exact ⟨_, h1⟩
/-- A number more behind a list of one's own. -/
def SlI (w0 U : World) (sv : Value) (k : Nat) (X : List Nat) (v' : Value) (w' : World) : Prop := ∃ a c, v' = .slice a k c ∧ w'.ownsRow w0.heap.size 3 1 (.slice a k c) k (vi X) ∧ Ext [] w0 w' ∧ Ext sv.ownBlock.toList U w'
theorem app_int (w0 wr : World) (hE : Ext [] w0 wr) (v : Value) (n : Nat) (X : List Nat) (ho : wr.ownsRow w0.heap.size 3 1 v n (vi X)) (x : Nat) (hn : n ≤ 1000000) :
    ∃ v' w', (Builtin.append_ #[25, 25] 25 #[v, .slice (some ⟨wr.heap.size, 0, none⟩) 1 1]).run Tryd.prog (wr.alloc (.cells #[.int .i64 (x : Nat)] 3)) = .ok v' w' ∧ SlI w0 wr v (n + 1) (X ++ [x]) v' w' := by
  have hEa := Ext.alloc [] wr (.cells #[.int .i64 (x : Nat)] 3)
  obtain ⟨v', w', hr, ho', hE1, hE2⟩ := app_own w0 _ (hE.trans hEa) 25 25 3 _ 8 Tryd.underlying25 info3' rfl (by omega) v n (vi X) (own_keep0 ho hEa) (some ⟨wr.heap.size, 0, none⟩) 1 1 [.int .i64 (x : Nat)] rfl (vs_new wr 3 [.int .i64 (x : Nat)]) (by simp [Value.oneCell']) (by omega)
  obtain ⟨a, c, rfl, _⟩ := own_slice ho'
  refine ⟨_, w', hr, a, c, rfl, ?_, hE1, (hEa.mono (by simp)).trans hE2⟩
  rw [vi_append]; exact ho'
/-- What was read so far of the slots. -/
structure RsI (w wr : World) (z dp k : Nat) (S X : List Nat) (sv : Value) : Prop where
  res : wr.heap[z]? = some (.cells #[.int .i64 0, .slice none 0 0, .slice none 0 0] 27)
  row : wr.heap[z + 1]? = some (.cells #[.int .i64 (dp : Nat), .slice none 0 0, sv] 27)
  own : wr.ownsRow w.heap.size 3 1 sv k (vi (S.take k))
  rdr : Rdr w wr (z + 2) (S.drop k ++ X)
theorem rs_step {w wr w5 w6 : World} {z dp k x : Nat} {S X : List Nat} {sv : Value} {sa : Option Addr} {sc : Nat} (hz : w.heap.size ≤ z + 1) (hI : RsI w wr z dp k S X sv) (hx : S[k]? = some x) (hE5 : Ext [z + 2] wr w5) (hR5 : Rdr w w5 (z + 2) (S.drop (k + 1) ++ X)) (ho5 : w5.ownsRow w.heap.size 3 1 sv k (vi (S.take k)))
    (ho6 : w6.ownsRow w.heap.size 3 1 (.slice sa (k + 1) sc) (k + 1) (vi (S.take k ++ [x]))) (hX6 : Ext [] w w6) (hk6 : Ext sv.ownBlock.toList w5 w6) : RsI w (w6.setCell ⟨z + 1, 2, none⟩ (.slice sa (k + 1) sc)) z dp (k + 1) S X (.slice sa (k + 1) sc) := by
  have hne : ∀ (b : Nat) (cs' : Array Value) (ty : TypeId), w5.heap[b]? = some (.cells cs' ty (0, 0)) → ty ≠ 3 → b ∉ sv.ownBlock.toList := fun b cs' ty hb hty => by
    rw [Option.mem_toList]; exact own_ne ho5 hb hty
  have r5 := hE5.keep hI.row (by simp)
  have r6 := hk6.keep r5 (hne _ _ _ r5 (by decide))
  have q5 := hE5.keep hI.res (by simp)
  have q6 := hk6.keep q5 (hne _ _ _ q5 (by decide))
  have hx6 := Ext.setCell [z + 1] w6 ⟨z + 1, 2, none⟩ (.slice sa (k + 1) sc) (by simp)
  have hX7 : Ext [] w (w6.setCell ⟨z + 1, 2, none⟩ (.slice sa (k + 1) sc)) := hX6.on hx6 (by simpa using hz)
  obtain ⟨pcs, hp⟩ := hR5.row
  refine ⟨hx6.keep q6 (by simp), heap_setCell_same w6 (z + 1) 2 _ 27 _ r6, ?_, (hR5.keep hk6 (hne _ _ _ hp (by decide)) hX6).keep hx6 (by simp) hX7⟩
  rw [take_snoc' hx]
  refine own_keep ho6 hx6 ?_
  intro b hb
  rw [List.mem_singleton] at hb
  subst hb
  exact own_ne ho6 r6 (by decide)
/-- A directory of its own, of this depth. -/
def Dand (w w' : World) (dp : Nat) (v : Value) (L : List Tq) : Prop := ∃ n bt ct bs cs, v = dv dp bt n ct bs 0 (2 ^ dp) cs ∧ L.length = n ∧ 2 ^ dp ≤ cs ∧ Dr w' bt bs 0 dp L ∧ w.heap.size ≤ bt ∧ w.heap.size ≤ bs
def RdPost (w : World) (dp : Nat) (L : List Tq) (e : Ending) (w' : World) : Prop := ∃ v, e = .returned (.tuple #[v, .bool true]) ∧ Dand w w' dp v L ∧ Ext [] w w'
set_option maxRecDepth 100000 in
set_option maxHeartbeats 4000000 in
theorem read_any (b o N c dp : Nat) (L : List Tq) (hD : Dq dp L) (w : World) (hW : Wd w (some ⟨b, o, none⟩) (dw dp L)) (hN : (dw dp L).length = N) (hc : N ≤ c) : Calls Tryd.prog 30 #[.slice (some ⟨b, o, none⟩) N c] w (RdPost w dp L) := by
  have hdp := hD.le
  have hl64 := hD.len
  have hm64 := pow64 hdp
  have hsl : (slo dp L 0).length = 2 ^ dp := by rw [slo_len, hD.all]
  have htl := hD.tws_le
  obtain ⟨m, hm⟩ : ∃ m, 2 ^ dp = m := ⟨_, rfl⟩
  have hm0 : 0 < m := by rw [← hm]; exact Nat.pow_pos (by omega)
  have hmw : wrap64 (2 ^ dp) = (m : Int) := by
    rw [← hm]
    exact wrap_pow hdp
  rw [hm] at hsl hm64
  obtain ⟨n, hn⟩ : ∃ n, L.length = n := ⟨_, rfl⟩
  rw [hn] at hl64
  obtain ⟨S, hS⟩ : ∃ S, slo dp L 0 = S := ⟨_, rfl⟩
  rw [hS] at hsl
  have hdw : dw dp L = dp :: n :: (S ++ tws L) := by unfold dw; rw [hn, hS]; rfl
  obtain ⟨z, hz⟩ : ∃ z, w.heap.size = z := ⟨_, rfl⟩
  have hE0 : Ext [] w (((w.alloc (.cells #[.int .i64 0, .slice none 0 0, .slice none 0 0] 27)).alloc (.cells #[.int .i64 0, .slice none 0 0, .slice none 0 0] 27)).alloc (.cells #[.slice (some ⟨b, o, none⟩) N c, .bool false] 108)) := ((Ext.alloc [] _ _).trans (Ext.alloc [] _ _)).trans (Ext.alloc [] _ _)
  have b0 : (((w.alloc (.cells #[.int .i64 0, .slice none 0 0, .slice none 0 0] 27)).alloc (.cells #[.int .i64 0, .slice none 0 0, .slice none 0 0] 27)).alloc (.cells #[.slice (some ⟨b, o, none⟩) N c, .bool false] 108)).heap[z]? = some (.cells #[.int .i64 0, .slice none 0 0, .slice none 0 0] 27) := by
    rw [← hz]; exact (Below.heap_alloc _ _ _ (by simp; omega)).trans ((Below.heap_alloc _ _ _ (by simp)).trans (heap_alloc_new w _))
  have b1 : (((w.alloc (.cells #[.int .i64 0, .slice none 0 0, .slice none 0 0] 27)).alloc (.cells #[.int .i64 0, .slice none 0 0, .slice none 0 0] 27)).alloc (.cells #[.slice (some ⟨b, o, none⟩) N c, .bool false] 108)).heap[z + 1]? = some (.cells #[.int .i64 0, .slice none 0 0, .slice none 0 0] 27) := by
    have h1 := Below.heap_alloc ((w.alloc (.cells #[.int .i64 0, .slice none 0 0, .slice none 0 0] 27)).alloc (.cells #[.int .i64 0, .slice none 0 0, .slice none 0 0] 27)) (.cells #[.slice (some ⟨b, o, none⟩) N c, .bool false] 108) (w.heap.size + 1) (by simp)
    have h2 := heap_alloc_new (w.alloc (.cells #[.int .i64 0, .slice none 0 0, .slice none 0 0] 27)) (.cells #[.int .i64 0, .slice none 0 0, .slice none 0 0] 27)
    rw [World.size_alloc] at h2
    rw [h2, hz] at h1
    exact h1
  have b2 : (((w.alloc (.cells #[.int .i64 0, .slice none 0 0, .slice none 0 0] 27)).alloc (.cells #[.int .i64 0, .slice none 0 0, .slice none 0 0] 27)).alloc (.cells #[.slice (some ⟨b, o, none⟩) N c, .bool false] 108)).heap[z + 2]? = some (.cells #[.slice (some ⟨b, o, none⟩) N c, .bool false] 108) := by
    have := heap_alloc_new ((w.alloc (.cells #[.int .i64 0, .slice none 0 0, .slice none 0 0] 27)).alloc (.cells #[.int .i64 0, .slice none 0 0, .slice none 0 0] 27)) (.cells #[.slice (some ⟨b, o, none⟩) N c, .bool false] 108)
    rw [World.size_alloc, World.size_alloc, hz] at this; exact this
  obtain ⟨W0, hW0⟩ : ∃ W0, ((w.alloc (.cells #[.int .i64 0, .slice none 0 0, .slice none 0 0] 27)).alloc (.cells #[.int .i64 0, .slice none 0 0, .slice none 0 0] 27)).alloc (.cells #[.slice (some ⟨b, o, none⟩) N c, .bool false] 108) = W0 := ⟨_, rfl⟩
  rw [hW0] at hE0 b0 b1 b2
  have HW0 := hid hW0
  clear hW0
  have hR0 : Rdr w W0 (z + 2) (dp :: n :: (S ++ tws L)) := by
    rw [← hdw]
    refine ⟨by omega, hE0, b, o, N, c, b2, hN, hc, fun j hj => ?_⟩
    obtain ⟨_, _, e, hcc⟩ := hW.at_ (by rw [hdw]; simp)
    cases e
    exact hcc j hj
  have hlen : S.length + (tws L).length ≤ 4456800 := by omega
  have K := number_any (z + 2) dp 6 _ w W0 hR0 hdp (by omega) (by simp; omega)
  simp only [show ((6 : Nat) : Int) = 6 from rfl] at K
  have HD := hid hD
  have HNn := hid hn
  have HS := hid hS
  have HSl := hid hsl
  have HM := hid hm
  have HLen := hid hlen
  have B0 := hid b0
  have B1 := hid b1
  clear hD hn hS hsl hm b0 b1 b2 hR0 hE0 hdw hW hN htl hlen
  go_enter Tryd.func30, Tryd.ntmps30
  go_wp2_with fail
  rw [HW0.out]
  simp only [show z + 1 + 1 = z + 2 from rfl]
  have HZ := hid hz
  clear HW0 hz
  refine K.mono ?_
  clear K
  rintro _ w1 ⟨rfl, hR1, hE1⟩
  have hr1 := hE1.keep B1.out (by simp)
  have hr0 := hE1.keep B0.out (by simp)
  have f0 : w1.frozen? ⟨z + 1, 0, none⟩ = false := frozen_of_row _ _ _ _ _ hr1
  have g0 : w1.cell? ⟨z + 1, 0, none⟩ = some (.int .i64 0) := by rw [cell_of_row _ _ _ _ _ _ hr1]; rfl
  have hx := Ext.setCell [z + 1] w1 ⟨z + 1, 0, none⟩ (.int .i64 (dp : Nat)) (by simp)
  have hr2 := heap_setCell_same w1 (z + 1) 0 _ 27 (.int .i64 (dp : Nat)) hr1
  obtain ⟨W2, hW2⟩ : ∃ W2, w1.setCell ⟨z + 1, 0, none⟩ (.int .i64 (dp : Nat)) = W2 := ⟨_, rfl⟩
  rw [hW2] at hx hr2
  have hnew := hR1.new
  have hR2 : Rdr w W2 (z + 2) (n :: (S ++ tws L)) := hR1.keep hx (by simp) (hR1.ext.on hx (by have := HZ.out; simp; omega))
  have hr02 := hx.keep hr0 (by simp)
  have K := number_any (z + 2) n 64 _ w W2 hR2 hl64 (by omega) (by rw [List.length_append]; have := HLen.out; omega)
  simp only [show ((64 : Nat) : Int) = 64 from rfl] at K
  have HW2 := hid hW2
  have Hr2 := hid hr2
  have Hr02 := hid hr02
  clear hW2 hr2 hr02 hR2 hx hR1 hE1 hr1 hr0
  go_wp2_with fail
  rw [HW2.out]
  clear HW2 f0 g0
  refine K.mono ?_
  clear K
  rintro _ w3 ⟨rfl, hR3, hE3⟩
  have hr3 : w3.heap[z + 1]? = some (.cells #[.int .i64 (dp : Nat), .slice none 0 0, .slice none 0 0] 27) := hE3.keep Hr2.out (by simp)
  have hr03 := hE3.keep Hr02.out (by simp)
  have HI : Hid (RsI w w3 z dp 0 S (tws L) (.slice none 0 0)) := ⟨hr03, hr3, by simpa [vi] using own_nil _ _ _ _, by simpa using hR3⟩
  have g0 : w3.cell? ⟨z + 1, 0, none⟩ = some (.int .i64 (dp : Nat)) := by rw [cell_of_row _ _ _ _ _ _ hr3]; rfl
  clear hr3 hr03 hR3 hE3 Hr2 Hr02
  go_wp2_with fail
  simp only [hmw]
  clear hmw
  go_loopw [16] (fun q wr => ∃ (k : Nat) (sv : Value), q = .int .i64 k ∧ k ≤ m ∧ RsI w wr z dp k S (tws L) sv) (fun q _ => (m - (intOf q)).toNat)
  case atStart => exact ⟨0, _, rfl, Nat.zero_le _, HI.out⟩
  case round =>
    obtain ⟨k, sv, rfl, hk, hI⟩ := hrel
    obtain ⟨sa, sc, rfl, _⟩ := own_slice hI.own
    by_cases hkm : k < m
    · have hki : (k : Int) < m := by omega
      obtain ⟨x, hx⟩ : ∃ x, S[k]? = some x := ⟨_, List.getElem?_eq_getElem (by rw [HSl.out]; exact hkm)⟩
      have hxl : x ≤ 64 := by
        have hx' := hx
        rw [← HS.out] at hx'
        have := slo_le hx'
        have h2 := HNn.out
        omega
      have hdr : S.drop k = x :: S.drop (k + 1) := by
        obtain ⟨h1, rfl⟩ := List.getElem?_eq_some_iff.1 hx
        exact (List.drop_eq_getElem_cons h1)
      have hEd := Ext.drew [] wr
      have hrd := hI.rdr
      rw [hdr] at hrd
      have hrd' := hrd.keep hEd (by simp) (hrd.ext.trans hEd)
      have K := number_any (z + 2) x 64 (S.drop (k + 1) ++ tws L) w wr.drew hrd' hxl (by omega) (by rw [List.length_append, List.length_drop]; have := HLen.out; omega)
      simp only [show ((64 : Nat) : Int) = 64 from rfl] at K
      have hrow := hEd.keep hI.row (by simp)
      have l2 : wr.drew.cell? ⟨z + 1, 2, none⟩ = some (.slice sa k sc) := by rw [cell_of_row _ _ _ _ _ _ hrow]; rfl
      obtain ⟨pcs, hprow⟩ := hrd'.row
      have HI := hid hI
      have HRow := hid hrow
      have HOwn := hid (own_keep0 hI.own hEd)
      have HPr := hid hprow
      have Hx := hid hx
      clear hI hrow hrd hrd' hEd hdr hx hprow
      go_wp2_with fail
      refine wp_region_noPanic ?_
      go_region_law (first
        | (refine step_append_own rfl _ _ 25 rfl (.slice sa k sc) (.slice (some ⟨w5.heap.size, 0, none⟩) 1 1) (by rfl) (by rfl) ra ?_; rintro v6 w6 ⟨a6, c6, rfl, ho6, hX6, hk6⟩; have hrow6 := hk6.keep hrow5 (by rw [Option.mem_toList]; exact own_ne ho5 hrow5 (by decide)); have f6 : w6.frozen? ⟨z + 1, 2, none⟩ = false := frozen_of_row _ _ _ _ _ hrow6; have c6' : w6.cell? ⟨z + 1, 2, none⟩ = some (.slice sa k sc) := (by rw [cell_of_row _ _ _ _ _ _ hrow6]; rfl))
        | (go_simp; go_wp2_with (first | (go_at_call 56; refine K.mono ?_; rintro _ w5 ⟨rfl, hR5, hE5⟩; have hrow5 := hE5.keep HRow.out (by simp); have l5 : w5.cell? ⟨z + 1, 2, none⟩ = some (.slice sa k sc) := (by rw [cell_of_row _ _ _ _ _ _ hrow5]; rfl); have l5' : ∀ o : Obj, (w5.alloc o).cell? ⟨z + 1, 2, none⟩ = some (.slice sa k sc) := (fun o => (Ext.alloc [] w5 o).cell l5 (by simp)); have ho5 := own_keep HOwn.out hE5 (by intro b hb; rw [List.mem_singleton] at hb; subst hb; exact own_ne HOwn.out HPr.out (by decide)); have ra := app_int w w5 hR5.ext (.slice sa k sc) k (S.take k) ho5 x (by omega)))))
      all_goals
        refine NoPanic.normal ?_
        have HI6 := hid (rs_step (by have := HZ.out; omega) HI.out Hx.out (((Ext.drew _ wr).trans hE5)) hR5 ho5 ho6 hX6 hk6)
        clear HI HRow HOwn HPr Hx hR5 hE5 hrow5 l5 l5' ho5 ra ho6 hX6 hk6 hrow6 f6 c6' K l2
        go_wp2_with fail
        go_roundw
        case rel => exact ⟨k + 1, _, by go_num, by omega, HI6.out⟩
        case measure => simp [intOf]; omega
    · obtain rfl : k = m := by omega
      obtain ⟨h1, h2, h3, h4⟩ := hI
      rw [List.drop_of_length_le (by rw [HSl.out]; omega), List.nil_append] at h4
      rw [List.take_of_length_le (by rw [HSl.out]; omega)] at h3
      obtain ⟨g3, rfl, hg3, hc3, hcur3, hNs3⟩ := ns_of_own h3 HSl.out hm0
      have hI0 : CpI w wr (z + 1) g3 sc k dp 0 L S (.slice none 0 0) := ⟨h2, ⟨[], own_nil _ _ _ _, by simp, by simp⟩, hNs3, hcur3, hg3, h4.ext, by have := HZ.out; omega⟩
      have HI0 := hid hI0
      have HR0 := hid h4
      have Hq0 := hid h1
      clear hI0 h1 h2 h3 h4 hcur3 hNs3
      go_wp2_with fail
      go_loopw [7, 26] (fun _ q wr => ∃ (j : Nat) (tv : Value), q = .int .i64 j ∧ j ≤ n ∧ CpI w wr (z + 1) g3 sc k dp j L S tv ∧ Rdr w wr (z + 2) (tws (L.drop j)) ∧ wr.heap[z]? = some (.cells #[.int .i64 0, .slice none 0 0, .slice none 0 0] 27)) (fun _ q _ => (n - (intOf q)).toNat)
      case atStart => exact ⟨0, _, rfl, Nat.zero_le _, HI0.out, HR0.out, Hq0.out⟩
      case round =>
        obtain ⟨j, tv, rfl, hj, hI, hRd, hres⟩ := hrel
        obtain ⟨ta, tc, rfl, _⟩ : ∃ a c, tv = .slice a j c ∧ j ≤ c := by obtain ⟨xs, ho, _⟩ := hI.own; exact own_slice ho
        by_cases hjn : j < n
        · have hji : (j : Int) < n := by omega
          have hnl := HNn.out
          obtain ⟨t, pp, hNt⟩ := HD.out.nth (n := j) (by omega)
          have hdr : tws (L.drop j) = t.d :: (t.T ++ tws (L.drop (j + 1))) := by
            obtain ⟨h1, e⟩ := List.getElem?_eq_some_iff.1 hNt.at_
            rw [List.drop_eq_getElem_cons h1, e]
            simp [tws, tw1]
          have hdl : t.d ≤ 6 := Nat.le_trans hNt.ot.le hdp
          have hTl := hNt.ot.sd.shp.len
          have hTg := hNt.ot.sd.shp.gp.le
          have hdrl : (tws (L.drop (j + 1))).length ≤ 4456704 := by
            have : tws L = tws (L.take (j + 1)) ++ tws (L.drop (j + 1)) := by unfold tws; rw [← List.flatMap_append, List.take_append_drop]
            have h2 := HD.out.tws_le
            rw [this, List.length_append] at h2
            omega
          rw [hdr] at hRd
          have K := number_any (z + 2) t.d 6 _ w wr hRd hdl (by omega) (by rw [List.length_append]; omega)
          simp only [show ((6 : Nat) : Int) = 6 from rfl] at K
          obtain ⟨pcs, hp⟩ := hRd.row
          have HI := hid hI
          have HNt := hid hNt
          have HP := hid hp
          have Hres := hid hres
          have HTl := hid hTl
          clear hI hRd hres hdr hnl hNt hp hTl
          go_wp2_with fail
          refine K.mono ?_
          clear K
          rintro _ w3 ⟨rfl, hR3, hE3⟩
          have hI3 := HI.out.keepP HP.out hE3 hR3.ext
          have hres3 := hE3.keep Hres.out (by simp)
          have hEd := Ext.drew [] w3
          have hI4 := hI3.keep hEd
          have hR4 := hR3.keep hEd (by simp) (hR3.ext.trans hEd)
          obtain ⟨o0, o1, o2⟩ := cells3 hI4.row
          have hG0 : t.T.getD 0 0 = t.G := HNt.out.ot.sd.shp.g0
          have K := rtable_any (z + 2) t.G t.T (tws (L.drop (j + 1))) w w3.drew hR4 HTl.out hG0 hTg (by omega)
          obtain ⟨pcs4, hp4⟩ := hR4.row
          have HI4 := hid hI4
          have HP4 := hid hp4
          have Hres4 := hid (hEd.keep hres3 (by simp))
          clear hI3 hI4 hres3 hEd hR3 hR4 hE3 HI HP Hres hG0 hp4
          go_wp2_with fail
          refine wp_region_noPanic ?_
          go_region_law (first
            | (refine step_append_own rfl _ _ 24 rfl (.slice ta j tc) (.slice (some ⟨w5.heap.size, 0, none⟩) 1 1) (by rfl) (by rfl) ra ?_; rintro v6 w6 ⟨hrow6, hI6, hk6, a6, c6, rfl⟩; have f6 : w6.frozen? ⟨z + 1, 1, none⟩ = false := frozen_of_row _ _ _ _ _ hrow6; have c6' : w6.cell? ⟨z + 1, 1, none⟩ = some (.slice ta j tc) := (by rw [cell_of_row _ _ _ _ _ _ hrow6]; rfl))
            | (go_simp; go_wp2_with (first | (go_at_call 57; refine K.mono ?_; rintro _ w5 ⟨g5, c5, rfl, hT5, hg5, hR5, hE5⟩; have hI5 := HI4.out.keepP HP4.out hE5 hR5.ext; have l5 : w5.cell? ⟨z + 1, 1, none⟩ = some (.slice ta j tc) := (cells3 hI5.row).2.1; have l5' : ∀ o : Obj, (w5.alloc o).cell? ⟨z + 1, 1, none⟩ = some (.slice ta j tc) := (fun o => (Ext.alloc [] w5 o).cell l5 (by simp)); have ra := ctA_of w w5 (z + 1) g3 sc k dp j g5 c5 L S (.slice ta j tc) t hI5 HNt.out.at_ hT5 (by omega)))))
          all_goals
            refine NoPanic.normal ?_
            have hEa5 := Ext.alloc [] w5 (.cells #[.int .i64 (t.d : Nat), .slice (some ⟨g5, 0, none⟩) (3 + 17 * t.G) c5] 66)
            obtain ⟨xs5, ho5, _⟩ := (hI5.keep hEa5).own
            have hne : ∀ (b : Nat) (cs' : Array Value) (ty : TypeId), (w5.alloc (.cells #[.int .i64 (t.d : Nat), .slice (some ⟨g5, 0, none⟩) (3 + 17 * t.G) c5] 66)).heap[b]? = some (.cells cs' ty (0, 0)) → ty ≠ 66 → b ∉ (Value.slice ta j tc).ownBlock.toList := fun b cs' ty hb hty => by
              rw [Option.mem_toList]; exact own_ne ho5 hb hty
            have hR5' := hR5.keep hEa5 (by simp) (hR5.ext.trans hEa5)
            obtain ⟨pcs6, hp6⟩ := hR5'.row
            have hst := Ext.setCell [z + 1] w6 ⟨z + 1, 1, none⟩ (.slice a6 (j + 1) c6) (by simp)
            have hR6 := (hR5'.keep hk6 (hne _ _ _ hp6 (by decide)) (hR5'.ext.on hk6 (fun b hb => (own_lt ho5 b (by simpa using hb)).1))).keep hst (by simp) hI6.ext
            have hres5 := hEa5.keep (hE5.keep Hres4.out (by simp)) (by simp)
            have hres6 := hst.keep (hk6.keep hres5 (hne _ _ _ hres5 (by decide))) (by simp)
            have HR6 := hid hR6
            have Hres6 := hid hres6
            have HI6 := hid hI6
            clear hEa5 ho5 hne hR5' hp6 hst hR6 hres5 hres6 hI6 hk6 hI5 hR5 hE5 l5 l5' ra hT5 hrow6 f6 c6' K o0 o1 o2 HI4 HP4 Hres4
            go_wp2_with fail
            go_roundw
            case rel => exact ⟨j + 1, _, by go_num, by omega, HI6.out, HR6.out, Hres6.out⟩
            case measure => simp [intOf]; omega
        · obtain rfl : j = n := by omega
          rw [List.drop_of_length_le (by rw [HNn.out]; omega), show tws [] = [] from rfl] at hRd
          obtain ⟨_, _, rb, ro, rn, rc, hp, hrn, _, _⟩ := hRd
          obtain rfl : rn = 0 := by rw [← hrn]; rfl
          obtain ⟨o0, o1, o2⟩ := cells3 hI.row
          have q0 : wr.cell? ⟨z + 2, 0, none⟩ = some (.slice (some ⟨rb, ro, none⟩) 0 rc) := by rw [cell_of_row _ _ _ _ _ _ hp]; rfl
          have q1 : wr.cell? ⟨z + 2, 1, none⟩ = some (.bool false) := by rw [cell_of_row _ _ _ _ _ _ hp]; rfl
          obtain ⟨h3, x0, _, _⟩ := s3_of hres (.int .i64 (dp : Nat)) (.slice ta j tc) (.slice (some ⟨g3, 0, none⟩) k sc)
          have x1 : wr.frozen? ⟨z, 1, none⟩ = false := frozen_of_row _ _ _ _ _ hres
          have x2 : wr.frozen? ⟨z, 2, none⟩ = false := frozen_of_row _ _ _ _ _ hres
          obtain ⟨y0, y1, y2⟩ := cells3 hres
          have hzs := HZ.out
          obtain ⟨xs, htv, _, htx⟩ := hI.own
          have hj0 : 0 < j := by
            rcases Nat.eq_zero_or_pos j with e | e
            · obtain rfl : L = [] := List.length_eq_zero_iff.1 (by rw [HNn.out]; exact e)
              have h1 := HD.out.all
              simp only [pre] at h1
              have h2 := HM.out
              omega
            · exact e
          have hta : ∃ gt, ta = some ⟨gt, 0, none⟩ := by
            rcases htv.2 with ⟨h1, h2⟩ | ⟨g, cap, cur, e, _⟩
            · omega
            · cases e; exact ⟨g, rfl⟩
          obtain ⟨gt, rfl⟩ := hta
          obtain ⟨hgt, hTc⟩ := tc_of_own (L := L) htv HNn.out (fun q t hq => htx q t (by rw [List.take_of_length_le (by rw [HNn.out]; omega)]; exact hq))
          have hgz : gt ≠ z := by
            rintro rfl
            obtain ⟨_, e, _⟩ := hTc.1
            rw [hres] at e; cases e
          have hg3z : g3 ≠ z := by
            rintro rfl
            obtain ⟨_, e⟩ := hI.gr
            rw [hres] at e; cases e
          have hTs := hTc.1.keep h3.ext (by simpa using hgz) (by simpa using fun T => not_tw_of hres (by decide) T)
          have hNs := hI.ns.keep h3.ext (by simpa using hg3z)
          have hF : RdPost w dp L (.returned (.tuple #[.agg #[.int .i64 (dp : Nat), .slice (some ⟨gt, 0, none⟩) j tc, .slice (some ⟨g3, 0, none⟩) k sc], .bool true])) (((wr.setCell ⟨z, 0, none⟩ (.int .i64 (dp : Nat))).setCell ⟨z, 1, none⟩ (.slice (some ⟨gt, 0, none⟩) j tc)).setCell ⟨z, 2, none⟩ (.slice (some ⟨g3, 0, none⟩) k sc)).drew := by
            have hd := Ext.drew [] (((wr.setCell ⟨z, 0, none⟩ (.int .i64 (dp : Nat))).setCell ⟨z, 1, none⟩ (.slice (some ⟨gt, 0, none⟩) j tc)).setCell ⟨z, 2, none⟩ (.slice (some ⟨g3, 0, none⟩) k sc))
            refine ⟨_, rfl, ⟨j, gt, tc, g3, sc, by unfold dv; rw [HM.out], HNn.out, by rw [HM.out]; exact hc3, ⟨hTs.keep0 hd, ?_⟩, hgt, hg3⟩, (hI.ext.on h3.ext (by simp; omega)).trans hd⟩
            rw [HS.out]
            exact hNs.keep hd (by simp)
          have HF := hid hF
          have HS3 := hid h3.row
          clear hI hp hrn hres h3 hF hTs hNs htv htx hTc
          go_wp2_with fail
          refine wp_region_noPanic ?_
          go_region_law (fail)
          all_goals
            refine NoPanic.normal ?_
            go_wp2_with fail
            refine bodyPost_ret (results_row_tmp rfl _ _ z 27 _ (0, 0) _ (.bool true) rfl rfl HS3.out Tryd.underlying27 rfl size27) rfl HF.out
end Go.Proofs.YtkfagfdefkaenaaDoor
