/-
  MSnd, MHol, MSou, MVsd: joined by program; no statement is proved here.
-/
import Derived.Test.YtjbbomokgpoilaaGreatDoorZMV
/-
  Sound views: the document's tests say yes; no statement is proved here.
-/
namespace Go.Proofs.YtjbbomokgpoilaaGreatDoor
open Go.RowKit

def vAt (L : List Vo) (k : Nat) : Vo := L.getD k ⟨0, 0, 0, []⟩
theorem vAt_get {L : List Vo} {k : Nat} (h : k < L.length) : vAt L k = L[k] := by simp [vAt, List.getD, h]
/-- A list of objects in memory, read at its places. -/
def Vl (w : World) (va : Option Addr) (L : List Vo) : Prop := ∀ k, k < L.length → ∃ g ra rc, va = some ⟨g, 0, none⟩ ∧ w.cell? ⟨g, k * 4, none⟩ = some (.int .i64 (vAt L k).a) ∧ w.cell? ⟨g, k * 4 + 1, none⟩ = some (.int .i64 (vAt L k).s) ∧ w.cell? ⟨g, k * 4 + 2, none⟩ = some (.int .i64 (vAt L k).t) ∧ w.cell? ⟨g, k * 4 + 3, none⟩ = some (.slice ra (vAt L k).r.length rc) ∧ Co.Is w ra (vAt L k).r
theorem Vl.keep0 {w w' : World} {va : Option Addr} {L : List Vo} (h : Vl w va L) (e : Ext [] w w') : Vl w' va L := fun k hk => by
  obtain ⟨g, ra, rc, h1, h2, h3, h4, h5, h6⟩ := h k hk
  exact ⟨g, ra, rc, h1, e.cell h2 (by simp), e.cell h3 (by simp), e.cell h4 (by simp), e.cell h5 (by simp), h6.keep0 (co_ext e)⟩
theorem Vos.vl {w : World} {b : Nat} {v : Value} {L : List Vo} (h : Vos w b v L) : ∃ va vc, v = .slice va L.length vc ∧ Vl w va L := by
  obtain ⟨A, h1, h2, h3⟩ := h
  have hl : A.length = L.length := by rw [← h1, List.length_map]
  obtain ⟨va, vc, rfl, _⟩ := own_slice h2
  refine ⟨va, vc, by rw [hl], fun k hk => ?_⟩
  have hka : k < A.length := by omega
  obtain ⟨g, c, hv, hc⟩ := own_at (f := voc) (by intro x _; rfl) (own_base h2 (Nat.zero_le _)) hka
  simp only [Value.slice.injEq] at hv
  obtain ⟨rfl, _, rfl⟩ := hv
  have hvk : vAt L k = A[k].1 := by
    rw [vAt_get hk]
    simp only [← h1, List.getElem_map]
  have h3k := h3 A[k] (List.getElem_mem hka)
  refine ⟨g, A[k].2.1, A[k].2.2, rfl, ?_, ?_, ?_, ?_, ?_⟩
  · rw [hvk]; exact hc 0 (by omega)
  · rw [hvk]; exact hc 1 (by omega)
  · rw [hvk]; exact hc 2 (by omega)
  · rw [hvk]; exact hc 3 (by omega)
  · rw [hvk]; exact Co.own_vs h3k

theorem far_no (x : Int) (h : 0 ≤ x ∧ x ≤ 2147483648) (w : World) : Calls Tryz.prog 63 #[.int .i64 x] w fun e w' => e = .returned (.bool false) ∧ w' = w := by
  have d1 : decide (x < 0) = false := by simp; omega
  have d2 : decide (x > 2147483648) = false := by simp; omega
  go_enter Tryz.func63, Tryz.ntmps63
  go_wp2
  go_ret
  exact ⟨rfl, rfl⟩

/-- Objects by rising addresses. -/
def Srt (L : List Vo) : Prop := ∀ i j, i < j → j < L.length → (vAt L i).a < (vAt L j).a
set_option maxRecDepth 100000 in
set_option maxHeartbeats 2000000 in
theorem find_yes (w : World) (va : Option Addr) (n vc : Nat) (L : List Vo) (h : Vl w va L) (hn : L.length = n) (hb : n ≤ 100000000) (hs : Srt L) (k : Nat) (hk : k < n) (x : Int) (hx : (vAt L k).a = x) :
    Calls Tryz.prog 32 #[.slice va n vc, .int .i64 x] w fun e w' => e = .returned (.int .i64 (k : Nat)) ∧ w' = w := by
  have H := hid h
  have Hs := hid hs
  have Hx := hid hx
  have Hn := hid hn
  clear h hs hx hn
  go_enter Tryz.func32, Tryz.ntmps32
  go_wp2_with fail
  go_loopw [5, 6] (fun lo hi wr => ∃ a b : Nat, lo = .int .i64 a ∧ hi = .int .i64 b ∧ a ≤ k ∧ k ≤ b ∧ b ≤ n ∧ wr = w) (fun lo hi _ => ((intOf hi) - (intOf lo)).toNat)
  case atStart => exact ⟨0, n, rfl, rfl, Nat.zero_le _, by omega, Nat.le_refl _, rfl⟩
  case round =>
    obtain ⟨a, b, rfl, rfl, ha, hkb, hbn, rfl⟩ := hrel
    by_cases hlt : a < b
    · obtain ⟨m, hm⟩ : ∃ m, (a + b) / 2 = m := ⟨_, rfl⟩
      have hm1 : a ≤ m := by omega
      have hm2 : m < b := by omega
      have e1 : IntKind.i64.wrap ((a : Int) + b) = ((a + b : Nat) : Int) := by rw [IntKind.wrap_i64]; omega
      have e2 : (((a + b : Nat) : Int)).tdiv 2 = (m : Int) := by rw [Int.tdiv_eq_ediv_of_nonneg (by omega), ← hm]; omega
      obtain ⟨g, rr, rc, rfl, c0, _, _, _, _⟩ := H.out m (by have := Hn.out; omega)
      have hcase : ((vAt L m).a < x → m < k) ∧ (¬ (vAt L m).a < x → k ≤ m) := by
        constructor
        · intro hl
          refine Nat.lt_of_not_le fun hh => ?_
          rcases Nat.lt_or_eq_of_le hh with q | q
          · have := Hs.out k m q (by have := Hn.out; omega)
            have := Hx.out
            omega
          · subst q
            have := Hx.out
            omega
        · intro hl
          refine Nat.le_of_not_lt fun hh => hl ?_
          have := Hs.out m k hh (by have := Hn.out; omega)
          have := Hx.out
          omega
      have HC := hid hcase
      have hmn : m < n := by omega
      clear hcase hm
      generalize (vAt L m).a = y at *
      by_cases hl : y < x
      · have d1 : decide (y < x) = true := by simpa using hl
        have hmk := HC.out.1 hl
        have e3 : IntKind.i64.wrap ((m : Int) + 1) = ((m + 1 : Nat) : Int) := by rw [IntKind.wrap_i64]; omega
        clear hl HC
        generalize a + b = ab at *
        go_wp2_with fail
        go_roundw
        case rel => exact ⟨m + 1, b, rfl, rfl, by omega, hkb, hbn, trivial⟩
        case measure => simp [intOf]; omega
      · have d1 : decide (y < x) = false := by simpa using hl
        have hmk := HC.out.2 hl
        clear hl HC
        generalize a + b = ab at *
        go_wp2_with fail
        go_roundw
        case rel => exact ⟨a, m, rfl, rfl, ha, hmk, by omega, trivial⟩
        case measure => simp [intOf]; omega
    · obtain rfl : a = k := by omega
      obtain rfl : b = a := by omega
      obtain ⟨g, rr, rc, rfl, c0, _, _, _, _⟩ := H.out b (by have := Hn.out; omega)
      rw [Hx.out] at c0
      have d1 : (x == x) = true := by simp
      go_wp2_with fail
      go_ret
      exact ⟨rfl, rfl⟩

set_option maxRecDepth 100000 in
set_option maxHeartbeats 2000000 in
theorem named_yes (w : World) (va : Option Addr) (n vc : Nat) (L : List Vo) (h : Vl w va L) (hn : L.length = n) (hb : n ≤ 100000000) (hs : Srt L) (ra : Option Addr) (rn rc : Nat) (R : List Int) (hR : Co.Is w ra R) (hrn : R.length = rn) (hrb : rn ≤ 17592186044415) (hin : ∀ r ∈ R, ∃ k, k < n ∧ (vAt L k).a = r) :
    Calls Tryz.prog 61 #[.slice va n vc, .slice ra rn rc] w fun e w' => e = .returned (.bool true) ∧ w' = w := by
  have HF : Hid (∀ r ∈ R, ∃ k : Nat, k < n ∧ Calls Tryz.prog 32 #[.slice va n vc, .int .i64 r] w fun e w' => e = .returned (.int .i64 (k : Nat)) ∧ w' = w) := fun r hr => by
    obtain ⟨k, h1, h2⟩ := hin r hr
    exact ⟨k, h1, find_yes w va n vc L h hn hb hs k h1 r h2⟩
  have HR := hid hR
  clear h hs hR hin hn
  go_enter Tryz.func61, Tryz.ntmps61
  go_wp2_with fail
  go_loopw [5] (fun q wr => ∃ k : Nat, q = .int .i64 k ∧ k ≤ rn ∧ wr = w) (fun q _ => (rn - (intOf q)).toNat)
  case atStart => exact ⟨0, rfl, Nat.zero_le _, rfl⟩
  case round =>
    obtain ⟨k, rfl, hk, rfl⟩ := hrel
    by_cases hlt : k < rn
    · have hkl : k < R.length := by omega
      obtain ⟨b', o', rfl, hcell⟩ := Co.Is.cell HR.out hkl
      obtain ⟨j, hj, K⟩ := HF.out (R.getD k 0) (by rw [show R.getD k 0 = R[k] by simp [List.getD, hkl]]; exact List.getElem_mem hkl)
      clear hkl
      generalize R.getD k 0 = x at *
      have d1 : decide ((j : Int) < 0) = false := by simp
      go_wp2_with fail
      refine met K ?_
      clear K
      go_wp2_with fail
      go_roundw
      case rel => exact ⟨k + 1, by go_num, by omega, trivial⟩
      case measure => simp [intOf]; omega
    · obtain rfl : k = rn := by omega
      go_wp2_with fail
      go_ret
      exact ⟨rfl, rfl⟩

/-- What an object of a sound view is like. -/
structure Vok (x : Vo) : Prop where
  lo : 256 ≤ x.a
  hi : x.a + x.s ≤ 262400
  m8 : x.a % 8 = 0
  s1 : 1 ≤ x.s
  t : 0 ≤ x.t ∧ x.t ≤ 2147483648
set_option maxRecDepth 100000 in
set_option maxHeartbeats 4000000 in
theorem objects_yes (w : World) (va : Option Addr) (n vc : Nat) (L : List Vo) (h : Vl w va L) (hn : L.length = n) (hb : n ≤ 100000000) (hs : Srt L) (hok : ∀ k, k < n → Vok (vAt L k)) (hap : ∀ k, k + 1 < n → (vAt L k).a + (vAt L k).s ≤ (vAt L (k + 1)).a) (hrf : ∀ k, k < n → (vAt L k).r.length ≤ 8192 ∧ ∀ r ∈ (vAt L k).r, ∃ j, j < n ∧ (vAt L j).a = r) :
    Calls Tryz.prog 60 #[.slice va n vc] w (SayPost w (.bool true)) := by
  have HN : Hid (∀ u k, Ext [] w u → k < n → ∃ g ra rc, va = some ⟨g, 0, none⟩ ∧ u.cell? ⟨g, k * 4 + 3, none⟩ = some (.slice ra (vAt L k).r.length rc) ∧ Calls Tryz.prog 61 #[.slice va n vc, .slice ra (vAt L k).r.length rc] u fun e w' => e = .returned (.bool true) ∧ w' = u) := fun u k hu hk => by
    have hv := h.keep0 hu
    obtain ⟨g, ra, rc, h1, _, _, _, h5, h6⟩ := hv k (by omega)
    exact ⟨g, ra, rc, h1, h5, named_yes u va n vc L hv hn hb hs ra _ rc (vAt L k).r h6 rfl (by have := (hrf k hk).1; omega) (hrf k hk).2⟩
  have H := hid h
  have Hn := hid hn
  have Hok := hid hok
  have Hap := hid hap
  clear h hn hs hok hap hrf
  go_enter Tryz.func60, Tryz.ntmps60
  go_wp2_with fail
  go_loopw [3] (fun q wr => ∃ k : Nat, q = .int .i64 k ∧ k ≤ n ∧ Ext [] w wr) (fun q _ => (n - (intOf q)).toNat)
  case atStart => exact ⟨0, rfl, Nat.zero_le _, Ext.refl _ _⟩
  case round =>
    obtain ⟨k, rfl, hk, hE⟩ := hrel
    by_cases hlt : k < n
    · obtain ⟨g, rr, rc, rfl, c0, c1, c2, c3, _⟩ := (H.out.keep0 hE) k (by have := Hn.out; omega)
      have ho := Hok.out k hlt
      have hpr : Hid (∀ j, k = j + 1 → (vAt L j).a + (vAt L j).s ≤ (vAt L k).a) := fun j hj => by subst hj; exact Hap.out j hlt
      obtain ⟨x, hx⟩ : ∃ x, vAt L k = x := ⟨_, rfl⟩
      rw [hx] at c0 c1 c2 c3 ho hpr
      obtain ⟨W1, hW1⟩ : ∃ W1, wr.alloc (.cells #[.int .i64 x.a, .int .i64 x.s, .int .i64 x.t, .slice rr x.r.length rc] 34) = W1 := ⟨_, rfl⟩
      obtain ⟨z, hz⟩ : ∃ z, wr.heap.size = z := ⟨_, rfl⟩
      have hE1 : Ext [] wr W1 := by rw [← hW1]; exact Ext.alloc [] _ _
      have hb1 : W1.heap[z]? = some (.cells #[.int .i64 x.a, .int .i64 x.s, .int .i64 x.t, .slice rr x.r.length rc] 34 (0, 0)) := by rw [← hW1, ← hz]; exact heap_alloc_new _ _
      have a0 : W1.cell? ⟨z, 0, none⟩ = some (.int .i64 x.a) := by rw [cell_of_row _ _ _ _ _ _ hb1]; rfl
      have a1 : W1.cell? ⟨z, 1, none⟩ = some (.int .i64 x.s) := by rw [cell_of_row _ _ _ _ _ _ hb1]; rfl
      have a2 : W1.cell? ⟨z, 2, none⟩ = some (.int .i64 x.t) := by rw [cell_of_row _ _ _ _ _ _ hb1]; rfl
      have f1 := far_no x.a (by have := ho.lo; have := ho.hi; have := ho.s1; omega)
      have f2 := far_no x.s (by have := ho.lo; have := ho.hi; have := ho.s1; omega)
      have f3 := far_no x.t ho.t
      have e8 : (x.a).tmod 8 = 0 := by rw [Int.tmod_eq_emod_of_nonneg (by have := ho.lo; omega)]; exact ho.m8
      have d1 : decide (x.a < 256) = false := by simp; have := ho.lo; omega
      have d2 : decide (x.s < 1) = false := by simp; have := ho.s1; omega
      have HE := hid hE
      have HE1 := hid (hE.trans hE1)
      have HW1 := hid hW1
      have HZ := hid hz
      have Ho := hid ho
      have Hx := hid hx
      clear hx ho hE hE1 hb1 hW1 hz
      go_upto_region 5 with fail
      rw [HW1.out]
      try simp only [HZ.out]
      clear c0 c1 c2 c3
      go_wp2_with fail
      refine met (f1 _) ?_
      go_wp2_with fail
      refine met (f2 _) ?_
      go_wp2_with fail
      refine met (f3 _) ?_
      go_upto_region 7 with fail
      cases k with
      | zero =>
        have dg : decide ((0 : Int) > 0) = false := by simp
        clear f1 f2 f3 d1 d2 e8
        go_quiet (fail)
        go_wp2_with fail
        go_roundw
        case rel => exact ⟨1, by go_num, by omega, HE1.out.trans (Ext.drewN [] _ _)⟩
        case measure => simp [intOf]; omega
      | succ j =>
        obtain ⟨g2, rr2, rc2, hg2, p0, p1, _, _, _⟩ := (H.out.keep0 HE1.out) j (by have := Hn.out; omega)
        cases hg2
        have hap := hpr.out j rfl
        have hoj := Hok.out j (by omega)
        have ej : IntKind.i64.wrap (((j + 1 : Nat) : Int) - 1) = (j : Int) := by rw [IntKind.wrap_i64]; omega
        have ea : IntKind.i64.wrap ((vAt L j).a + (vAt L j).s) = (vAt L j).a + (vAt L j).s := by have := hoj.lo; have := hoj.hi; have := hoj.s1; rw [IntKind.wrap_i64]; omega
        have dg : decide (((j + 1 : Nat) : Int) > 0) = true := by simp
        have db : decide ((vAt L j).a + (vAt L j).s > x.a) = false := by simp; omega
        have hjn : (j : Int) < n := by omega
        clear f1 f2 f3 d1 d2 e8 hap hoj
        generalize (vAt L j).a = ya at *
        generalize (vAt L j).s = ys at *
        go_quiet (fail)
        go_wp2_with fail
        go_roundw
        case rel => exact ⟨j + 1 + 1, by go_num, by omega, HE1.out.trans (Ext.drewN [] _ _)⟩
        case measure => simp [intOf]; omega
    · obtain rfl : k = n := by omega
      have HE := hid hE
      clear hE
      go_wp2_with fail
      go_loopw [5] (fun q wq => ∃ i : Nat, q = .int .i64 i ∧ i ≤ k ∧ Ext [] w wq) (fun q _ => (k - (intOf q)).toNat)
      case atStart => exact ⟨0, rfl, Nat.zero_le _, HE.out⟩
      case round =>
        obtain ⟨i, rfl, hi, hE2⟩ := hrel
        by_cases hli : i < k
        · obtain ⟨g, ra, rc, rfl, c3, K⟩ := HN.out wr i hE2 hli
          have HE2 := hid hE2
          clear hE2
          generalize (vAt L i).r.length = rl at *
          go_wp2_with fail
          refine met K ?_
          clear K
          go_wp2_with fail
          go_roundw
          case rel => exact ⟨i + 1, by go_num, by omega, HE2.out⟩
          case measure => simp [intOf]; omega
        · obtain rfl : i = k := by omega
          have HE2 := hid hE2
          clear hE2
          go_wp2_with fail
          go_ret
          exact ⟨rfl, HE2.out⟩

/-- The free runs of a sound view. -/
structure Fok (F : List Rn) : Prop where
  ok : ∀ i, ∀ h : i < F.length, 1 ≤ F[i].n ∧ F[i].s + F[i].n ≤ 1024 ∧ F[i].u = false
  ap : ∀ i, ∀ h : i + 1 < F.length, F[i].s + F[i].n < F[i + 1].s
end Go.Proofs.YtjbbomokgpoilaaGreatDoor

/-
  The free runs of a sound view; no statement is proved here.
-/
namespace Go.Proofs.YtjbbomokgpoilaaGreatDoor
open Go.RowKit

set_option maxRecDepth 100000 in
set_option maxHeartbeats 4000000 in
theorem holes_yes (w : World) (va : Option Addr) (n vc : Nat) (L : List Vo) (fa : Option Addr) (fn fc : Nat) (F : List Rn) (rv cv pv : Value) (h : Vl w va L) (hn : L.length = n) (hb : n ≤ 100000000) (hF : Lst w (.slice fa fn fc) F) (hfn : F.length = fn) (hfb : fn ≤ 1000000) (hok : ∀ k, k < n → Vok (vAt L k))
    (hfo : ∀ i, i < fn → 1 ≤ (rnAt F i).n ∧ (rnAt F i).s + (rnAt F i).n ≤ 1024 ∧ (rnAt F i).u = false) (hfp : ∀ i, i + 1 < fn → (rnAt F i).s + (rnAt F i).n < (rnAt F (i + 1)).s)
    (hd : ∀ i k, i < fn → k < n → (vAt L k).a + (vAt L k).s ≤ (((rnAt F i).s : Int) + 1) * 256 ∨ (((rnAt F i).s : Int) + 1) * 256 + (rnAt F i).n * 256 ≤ (vAt L k).a) :
    Calls Tryz.prog 62 #[.agg #[.slice va n vc, .slice fa fn fc, rv, pv, cv]] w (SayPost w (.bool true)) := by
  obtain ⟨W0, hW0⟩ : ∃ W0, w.alloc (.cells #[.slice va n vc, .slice fa fn fc, rv, pv, cv] 40) = W0 := ⟨_, rfl⟩
  obtain ⟨z, hz⟩ : ∃ z, w.heap.size = z := ⟨_, rfl⟩
  have hE0 : Ext [] w W0 := by rw [← hW0]; exact Ext.alloc [] _ _
  have hr0 : W0.heap[z]? = some (.cells #[.slice va n vc, .slice fa fn fc, rv, pv, cv] 40 (0, 0)) := by rw [← hW0, ← hz]; exact heap_alloc_new _ _
  have HV : Hid (∀ u, Ext [] W0 u → u.cell? ⟨z, 0, none⟩ = some (.slice va n vc) ∧ u.cell? ⟨z, 1, none⟩ = some (.slice fa fn fc) ∧ Vl u va L ∧ Lst u (.slice fa fn fc) F) := fun u hu =>
    ⟨by rw [cell_of_row _ _ _ _ _ _ (hu.keep hr0 (by simp))]; rfl, by rw [cell_of_row _ _ _ _ _ _ (hu.keep hr0 (by simp))]; rfl, h.keep0 (hE0.trans hu), hF.keep0 (hE0.trans hu)⟩
  have HW0 := hid hW0
  have HZ := hid hz
  have HE0 := hid hE0
  have Hn := hid hn
  have Hfn := hid hfn
  have Hok := hid hok
  have Hfo := hid hfo
  have Hfp := hid hfp
  have Hd := hid hd
  clear h hF hW0 hz hE0 hr0 hn hfn hok hfo hfp hd
  go_enter Tryz.func62, Tryz.ntmps62
  go_wp2_with fail
  rw [HW0.out, HZ.out]
  go_loopw [3] (fun q wr => ∃ i : Nat, q = .int .i64 i ∧ i ≤ fn ∧ Ext [] W0 wr) (fun q _ => (fn - (intOf q)).toNat)
  case atStart => exact ⟨0, rfl, Nat.zero_le _, Ext.refl _ _⟩
  case round =>
    obtain ⟨i, rfl, hi, hE⟩ := hrel
    obtain ⟨v0, v1, _, hF⟩ := HV.out wr hE
    by_cases hlt : i < fn
    · obtain ⟨g, fc', hfv, _, _, _, hc⟩ := hF.at_ (by have := Hfn.out; omega)
      simp only [Value.slice.injEq] at hfv
      obtain ⟨rfl, hx1, hx2⟩ := hfv
      clear hx1 hx2
      obtain ⟨r0, r1, r2⟩ := hc i (by have := Hfn.out; omega)
      have ho := Hfo.out i hlt
      rw [ho.2.2] at r2
      have hp : Hid (∀ j, i = j + 1 → (rnAt F j).s + (rnAt F j).n < (rnAt F i).s ∧ (rnAt F j).s + (rnAt F j).n ≤ 1024 ∧ wr.cell? ⟨g, j * 3, none⟩ = some (.int .i64 (rnAt F j).s) ∧ wr.cell? ⟨g, j * 3 + 1, none⟩ = some (.int .i64 (rnAt F j).n)) := fun j hj => by
        subst hj
        have := hc j (by have := Hfn.out; omega)
        exact ⟨Hfp.out j hlt, (Hfo.out j (by omega)).2.1, this.1, this.2.1⟩
      have HD : Hid (∀ k, k < n → (vAt L k).a + (vAt L k).s ≤ (((rnAt F i).s : Int) + 1) * 256 ∨ (((rnAt F i).s : Int) + 1) * 256 + (rnAt F i).n * 256 ≤ (vAt L k).a) := fun k hk => Hd.out i k hlt hk
      clear hc hF
      generalize rnAt F i = x at *
      obtain ⟨W1, hW1⟩ : ∃ W1, wr.alloc (.cells #[.int .i64 x.s, .int .i64 x.n, .bool false] 98) = W1 := ⟨_, rfl⟩
      obtain ⟨y, hy⟩ : ∃ y, wr.heap.size = y := ⟨_, rfl⟩
      have hE1 : Ext [] wr W1 := by rw [← hW1]; exact Ext.alloc [] _ _
      have hb1 : W1.heap[y]? = some (.cells #[.int .i64 x.s, .int .i64 x.n, .bool false] 98 (0, 0)) := by rw [← hW1, ← hy]; exact heap_alloc_new _ _
      have a0 : W1.cell? ⟨y, 0, none⟩ = some (.int .i64 x.s) := by rw [cell_of_row _ _ _ _ _ _ hb1]; rfl
      have a1 : W1.cell? ⟨y, 1, none⟩ = some (.int .i64 x.n) := by rw [cell_of_row _ _ _ _ _ _ hb1]; rfl
      have a2 : W1.cell? ⟨y, 2, none⟩ = some (.bool false) := by rw [cell_of_row _ _ _ _ _ _ hb1]; rfl
      have f1 := far_no x.s (by omega)
      have f2 := far_no x.n (by omega)
      have d1 : decide ((x.n : Int) < 1) = false := by simp; omega
      have HE1 := hid (hE.trans hE1)
      have HWY : Hid (Ext [] wr W1) := hE1
      have HW1 := hid hW1
      have HY := hid hy
      obtain ⟨u0, u1, _, _⟩ := HV.out W1 HE1.out
      clear hE hE1 hb1 hW1 hy
      go_upto_region 5 with fail
      rw [HW1.out]
      try simp only [HY.out]
      clear r0 r1 r2 v0 v1
      go_wp2_with fail
      refine met (f1 _) ?_
      go_wp2_with fail
      refine met (f2 _) ?_
      go_upto_region 7 with fail
      cases i with
      | zero =>
        have dg : decide ((0 : Int) > 0) = false := by simp
        clear f1 f2 d1
        go_quiet (fail)
        have e1 : IntKind.i64.wrap ((x.s : Int) + 1) = (x.s : Int) + 1 := by rw [IntKind.wrap_i64]; omega
        have e2 : IntKind.i64.wrap (((x.s : Int) + 1) * 256) = ((x.s : Int) + 1) * 256 := by rw [IntKind.wrap_i64]; omega
        have e3 : IntKind.i64.wrap ((x.n : Int) * 256) = (x.n : Int) * 256 := by rw [IntKind.wrap_i64]; omega
        have e4 : IntKind.i64.wrap (((x.s : Int) + 1) * 256 + (x.n : Int) * 256) = ((x.s : Int) + 1) * 256 + (x.n : Int) * 256 := by rw [IntKind.wrap_i64]; omega
        go_wp2_with fail
        clear e1 e2 e3 e4
        generalize ((x.s : Int) + 1) * 256 = fr at *
        generalize fr + (x.n : Int) * 256 = to at *
        go_loopw [7] (fun q wr => ∃ k : Nat, q = .int .i64 k ∧ k ≤ n ∧ Ext [] W1 wr) (fun q _ => (n - (intOf q)).toNat)
        case atStart => exact ⟨0, rfl, Nat.zero_le _, Ext.drewN [] _ _⟩
        case round =>
          obtain ⟨k, rfl, hk, hE2⟩ := hrel
          obtain ⟨t0, _, hLv, _⟩ := HV.out wr (HE1.out.trans hE2)
          by_cases hkl : k < n
          · obtain ⟨g', ra, rc, hva, c0, c1, c2, c3, _⟩ := hLv k (by have := Hn.out; omega)
            subst hva
            have hq := HD.out k hkl
            have hv := Hok.out k hkl
            generalize vAt L k = v at *
            obtain ⟨W3, hW3⟩ : ∃ W3, wr.alloc (.cells #[.int .i64 v.a, .int .i64 v.s, .int .i64 v.t, .slice ra v.r.length rc] 34) = W3 := ⟨_, rfl⟩
            obtain ⟨y3, hy3⟩ : ∃ y3, wr.heap.size = y3 := ⟨_, rfl⟩
            have hE3 : Ext [] wr W3 := by rw [← hW3]; exact Ext.alloc [] _ _
            have hb3 : W3.heap[y3]? = some (.cells #[.int .i64 v.a, .int .i64 v.s, .int .i64 v.t, .slice ra v.r.length rc] 34 (0, 0)) := by rw [← hW3, ← hy3]; exact heap_alloc_new _ _
            have b0 : W3.cell? ⟨y3, 0, none⟩ = some (.int .i64 v.a) := by rw [cell_of_row _ _ _ _ _ _ hb3]; rfl
            have b1 : W3.cell? ⟨y3, 1, none⟩ = some (.int .i64 v.s) := by rw [cell_of_row _ _ _ _ _ _ hb3]; rfl
            have eS : IntKind.i64.wrap (v.a + v.s) = v.a + v.s := by have := hv.lo; have := hv.hi; have := hv.s1; rw [IntKind.wrap_i64]; omega
            have HE3 := hid (hE2.trans hE3)
            have HW3 := hid hW3
            have HY3 := hid hy3
            clear hE2 hE3 hb3 hW3 hy3 hv hLv
            go_upto_region 15 with fail
            rw [HW3.out]
            try simp only [HY3.out]
            clear c0 c1 c2 c3
            generalize v.a = va0 at *
            generalize v.s = vs0 at *
            by_cases hvt : va0 < to
            · have dA : decide (va0 < to) = true := by simpa using hvt
              have dB : decide (va0 + vs0 > fr) = false := by simp; omega
              have dg : va0 + vs0 ≤ fr := by omega
              clear hq hvt
              go_wp2_with fail
              go_roundw
              case rel => exact ⟨k + 1, by go_num, by omega, HE3.out⟩
              case measure => simp [intOf]; omega
            · have dA : decide (va0 < to) = false := by simpa using hvt
              clear hq hvt
              go_wp2_with fail
              go_roundw
              case rel => exact ⟨k + 1, by go_num, by omega, HE3.out⟩
              case measure => simp [intOf]; omega
          · obtain rfl : k = n := by omega
            have HE2 := hid hE2
            clear hE2 hLv
            go_wp2_with fail
            go_roundw
            case rel => exact ⟨0 + 1, by go_num, by omega, HE1.out.trans HE2.out⟩
            case measure => simp [intOf]; omega
      | succ j =>
        obtain ⟨hp1, hp2, p0', p1'⟩ := hp.out j rfl
        have p0 := HWY.out.cell p0' (by simp)
        have p1 := HWY.out.cell p1' (by simp)
        have ej : IntKind.i64.wrap (((j + 1 : Nat) : Int) - 1) = (j : Int) := by rw [IntKind.wrap_i64]; omega
        have ea : IntKind.i64.wrap (((rnAt F j).s : Int) + (rnAt F j).n) = ((rnAt F j).s : Int) + (rnAt F j).n := by rw [IntKind.wrap_i64]; omega
        have dg : decide (((j + 1 : Nat) : Int) > 0) = true := by simp
        have db : decide (((rnAt F j).s : Int) + (rnAt F j).n ≥ x.s) = false := by simp; omega
        have hjn : (j : Int) < fn := by omega
        clear f1 f2 d1 p0' p1' hp1 hp2
        generalize (rnAt F j) = px at *
        go_quiet (fail)
        have e1 : IntKind.i64.wrap ((x.s : Int) + 1) = (x.s : Int) + 1 := by rw [IntKind.wrap_i64]; omega
        have e2 : IntKind.i64.wrap (((x.s : Int) + 1) * 256) = ((x.s : Int) + 1) * 256 := by rw [IntKind.wrap_i64]; omega
        have e3 : IntKind.i64.wrap ((x.n : Int) * 256) = (x.n : Int) * 256 := by rw [IntKind.wrap_i64]; omega
        have e4 : IntKind.i64.wrap (((x.s : Int) + 1) * 256 + (x.n : Int) * 256) = ((x.s : Int) + 1) * 256 + (x.n : Int) * 256 := by rw [IntKind.wrap_i64]; omega
        go_wp2_with fail
        clear e1 e2 e3 e4
        generalize ((x.s : Int) + 1) * 256 = fr at *
        generalize fr + (x.n : Int) * 256 = to at *
        go_loopw [7] (fun q wr => ∃ k : Nat, q = .int .i64 k ∧ k ≤ n ∧ Ext [] W1 wr) (fun q _ => (n - (intOf q)).toNat)
        case atStart => exact ⟨0, rfl, Nat.zero_le _, Ext.drewN [] _ _⟩
        case round =>
          obtain ⟨k, rfl, hk, hE2⟩ := hrel
          obtain ⟨t0, _, hLv, _⟩ := HV.out wr (HE1.out.trans hE2)
          by_cases hkl : k < n
          · obtain ⟨g', ra, rc, hva, c0, c1, c2, c3, _⟩ := hLv k (by have := Hn.out; omega)
            subst hva
            have hq := HD.out k hkl
            have hv := Hok.out k hkl
            generalize vAt L k = v at *
            obtain ⟨W3, hW3⟩ : ∃ W3, wr.alloc (.cells #[.int .i64 v.a, .int .i64 v.s, .int .i64 v.t, .slice ra v.r.length rc] 34) = W3 := ⟨_, rfl⟩
            obtain ⟨y3, hy3⟩ : ∃ y3, wr.heap.size = y3 := ⟨_, rfl⟩
            have hE3 : Ext [] wr W3 := by rw [← hW3]; exact Ext.alloc [] _ _
            have hb3 : W3.heap[y3]? = some (.cells #[.int .i64 v.a, .int .i64 v.s, .int .i64 v.t, .slice ra v.r.length rc] 34 (0, 0)) := by rw [← hW3, ← hy3]; exact heap_alloc_new _ _
            have b0 : W3.cell? ⟨y3, 0, none⟩ = some (.int .i64 v.a) := by rw [cell_of_row _ _ _ _ _ _ hb3]; rfl
            have b1 : W3.cell? ⟨y3, 1, none⟩ = some (.int .i64 v.s) := by rw [cell_of_row _ _ _ _ _ _ hb3]; rfl
            have eS : IntKind.i64.wrap (v.a + v.s) = v.a + v.s := by have := hv.lo; have := hv.hi; have := hv.s1; rw [IntKind.wrap_i64]; omega
            have HE3 := hid (hE2.trans hE3)
            have HW3 := hid hW3
            have HY3 := hid hy3
            clear hE2 hE3 hb3 hW3 hy3 hv hLv
            go_upto_region 15 with fail
            rw [HW3.out]
            try simp only [HY3.out]
            clear c0 c1 c2 c3
            generalize v.a = va0 at *
            generalize v.s = vs0 at *
            by_cases hvt : va0 < to
            · have dA : decide (va0 < to) = true := by simpa using hvt
              have dB : decide (va0 + vs0 > fr) = false := by simp; omega
              have dg : va0 + vs0 ≤ fr := by omega
              clear hq hvt
              go_wp2_with fail
              go_roundw
              case rel => exact ⟨k + 1, by go_num, by omega, HE3.out⟩
              case measure => simp [intOf]; omega
            · have dA : decide (va0 < to) = false := by simpa using hvt
              clear hq hvt
              go_wp2_with fail
              go_roundw
              case rel => exact ⟨k + 1, by go_num, by omega, HE3.out⟩
              case measure => simp [intOf]; omega
          · obtain rfl : k = n := by omega
            have HE2 := hid hE2
            clear hE2 hLv
            go_wp2_with fail
            go_roundw
            case rel => exact ⟨j + 1 + 1, by go_num, by omega, HE1.out.trans HE2.out⟩
            case measure => simp [intOf]; omega
    · obtain rfl : i = fn := by omega
      have HE := hid hE
      clear hE hF
      go_wp2_with fail
      go_ret
      exact ⟨rfl, HE0.out.trans HE.out⟩
end Go.Proofs.YtjbbomokgpoilaaGreatDoor

/-
  Sound views; no statement is proved here.
-/
namespace Go.Proofs.YtjbbomokgpoilaaGreatDoor
open Go.RowKit

/-- A view that is sound, in plain words. -/
structure Vsd (L : List Vo) (F : List Rn) (R : List Int) (ph cy : Int) : Prop where
  ln : L.length ≤ 100000000
  fn : F.length ≤ 1000000
  rn : R.length ≤ 17592186044415
  srt : Srt L
  ok : ∀ k, k < L.length → Vok (vAt L k)
  ap : ∀ k, k + 1 < L.length → (vAt L k).a + (vAt L k).s ≤ (vAt L (k + 1)).a
  rf : ∀ k, k < L.length → (vAt L k).r.length ≤ 8192 ∧ ∀ r ∈ (vAt L k).r, ∃ j, j < L.length ∧ (vAt L j).a = r
  rt : ∀ r ∈ R, ∃ j, j < L.length ∧ (vAt L j).a = r
  fo : ∀ i, i < F.length → 1 ≤ (rnAt F i).n ∧ (rnAt F i).s + (rnAt F i).n ≤ 1024 ∧ (rnAt F i).u = false
  fp : ∀ i, i + 1 < F.length → (rnAt F i).s + (rnAt F i).n < (rnAt F (i + 1)).s
  fd : ∀ i k, i < F.length → k < L.length → (vAt L k).a + (vAt L k).s ≤ (((rnAt F i).s : Int) + 1) * 256 ∨ (((rnAt F i).s : Int) + 1) * 256 + (rnAt F i).n * 256 ≤ (vAt L k).a
  ph : 0 ≤ ph ∧ ph ≤ 2
  cy : 0 ≤ cy ∧ cy ≤ 2147483648

set_option maxRecDepth 100000 in
set_option maxHeartbeats 4000000 in
theorem sound_yes (w : World) (va : Option Addr) (n vc : Nat) (L : List Vo) (fa : Option Addr) (fn fc : Nat) (F : List Rn) (ra : Option Addr) (rn rc : Nat) (R : List Int) (ph cy : Int) (h : Vl w va L) (hn : L.length = n) (hF : Lst w (.slice fa fn fc) F) (hfn : F.length = fn) (hR : Co.Is w ra R) (hrn : R.length = rn) (hs : Vsd L F R ph cy) :
    Calls Tryz.prog 30 #[.agg #[.slice va n vc, .slice fa fn fc, .slice ra rn rc, .int .i64 ph, .int .i64 cy]] w (SayPost w (.int .i64 0)) := by
  subst hn
  subst hfn
  subst hrn
  have K1 : Hid (∀ u, Ext [] w u → Calls Tryz.prog 60 #[.slice va L.length vc] u (SayPost u (.bool true))) := fun u hu =>
    objects_yes u va _ vc L (h.keep0 hu) rfl hs.ln hs.srt hs.ok hs.ap hs.rf
  have K2 : Hid (∀ u, Ext [] w u → Calls Tryz.prog 61 #[.slice va L.length vc, .slice ra R.length rc] u fun e w' => e = .returned (.bool true) ∧ w' = u) := fun u hu =>
    named_yes u va _ vc L (h.keep0 hu) rfl hs.ln hs.srt ra _ rc R (hR.keep0 (co_ext hu)) rfl hs.rn hs.rt
  have K3 : Hid (∀ u, Ext [] w u → Calls Tryz.prog 62 #[.agg #[.slice va L.length vc, .slice fa F.length fc, .slice ra R.length rc, .int .i64 ph, .int .i64 cy]] u (SayPost u (.bool true))) := fun u hu =>
    holes_yes u va _ vc L fa _ fc F _ _ _ (h.keep0 hu) rfl hs.ln (hF.keep0 hu) rfl hs.fn hs.ok hs.fo hs.fp hs.fd
  have K4 := far_no cy hs.cy
  have d1 : decide (ph < 0) = false := by simp; exact hs.ph.1
  have d2 : decide (ph > 2) = false := by simp; exact hs.ph.2
  clear h hF hR hs
  generalize L.length = n at *
  generalize F.length = fn at *
  generalize R.length = rn at *
  obtain ⟨W0, hW0⟩ : ∃ W0, w.alloc (.cells #[.slice va n vc, .slice fa fn fc, .slice ra rn rc, .int .i64 ph, .int .i64 cy] 40) = W0 := ⟨_, rfl⟩
  obtain ⟨z, hz⟩ : ∃ z, w.heap.size = z := ⟨_, rfl⟩
  have hE0 : Ext [] w W0 := by rw [← hW0]; exact Ext.alloc [] _ _
  have hr0 : W0.heap[z]? = some (.cells #[.slice va n vc, .slice fa fn fc, .slice ra rn rc, .int .i64 ph, .int .i64 cy] 40 (0, 0)) := by rw [← hW0, ← hz]; exact heap_alloc_new _ _
  have HV : Hid (∀ u, Ext [] W0 u → u.cell? ⟨z, 0, none⟩ = some (.slice va n vc) ∧ u.cell? ⟨z, 1, none⟩ = some (.slice fa fn fc) ∧ u.cell? ⟨z, 2, none⟩ = some (.slice ra rn rc) ∧ u.cell? ⟨z, 3, none⟩ = some (.int .i64 ph) ∧ u.cell? ⟨z, 4, none⟩ = some (.int .i64 cy)) := fun u hu => by
    have := hu.keep hr0 (by simp)
    refine ⟨?_, ?_, ?_, ?_, ?_⟩ <;> (rw [cell_of_row _ _ _ _ _ _ this]; rfl)
  have HW0 := hid hW0
  have HZ := hid hz
  have HE0 := hid hE0
  clear hW0 hz hE0 hr0
  go_enter Tryz.func30, Tryz.ntmps30
  go_wp2_with fail
  rw [HW0.out]
  try simp only [HZ.out]
  refine (K1.out _ HE0.out).mono ?_
  rintro e w1 ⟨rfl, hE1⟩
  obtain ⟨c0, c1, c2, c3, c4⟩ := HV.out _ hE1
  have HE1 := hid hE1
  clear hE1
  go_wp2_with fail
  refine met (K2.out _ (HE0.out.trans HE1.out)) ?_
  go_wp2_with fail
  refine (K3.out _ (HE0.out.trans HE1.out)).mono ?_
  rintro e w2 ⟨rfl, hE2⟩
  obtain ⟨q0, q1, q2, q3, q4⟩ := HV.out _ (HE1.out.trans hE2)
  have HE2 := hid (HE0.out.trans (HE1.out.trans hE2))
  clear hE2 c0 c1 c2 c3 c4
  go_wp2_with fail
  refine met (K4 _) ?_
  go_wp2_with fail
  go_ret
  exact ⟨rfl, HE2.out⟩
end Go.Proofs.YtjbbomokgpoilaaGreatDoor

/-
  What a sound memory's view tells is sound: plain facts; no statement is proved here.
-/
namespace Go.Proofs.YtjbbomokgpoilaaGreatDoor

theorem mem_sobs {x : Spn} {o : Ob} : ∀ {i : Nat}, o ∈ sobs x i → ∃ j, j < i ∧ 0 < (x.S.getD j (0, 0)).1 ∧ o = (((adr x j : Nat) : Int), (x.S.getD j (0, 0)).1, (x.S.getD j (0, 0)).2)
  | 0, h => by cases h
  | i + 1, h => by
    by_cases hp : 0 < (x.S.getD i (0, 0)).1
    · rw [sobs_yes hp] at h
      rcases List.mem_append.1 h with q | q
      · obtain ⟨j, h1, h2⟩ := mem_sobs q; exact ⟨j, by omega, h2⟩
      · exact ⟨i, by omega, hp, by simpa using q⟩
    · rw [sobs_no hp] at h
      obtain ⟨j, h1, h2⟩ := mem_sobs h; exact ⟨j, by omega, h2⟩
theorem Spn.Ok.slotsz {x : Spn} (h : x.Ok) (j : Nat) : 0 ≤ (x.S.getD j (0, 0)).1 ∧ (x.S.getD j (0, 0)).1 ≤ x.rm := by
  by_cases hj : j < x.S.length
  · have : x.S.getD j (0, 0) ∈ x.S := by simp [List.getD, hj]
    exact h.sz _ this
  · have : x.S.getD j (0, 0) = (0, 0) := by simp [List.getD, Nat.le_of_not_lt hj]
    rw [this]; simp
theorem sobs_apart {x : Spn} (h : x.Ok) : ∀ i, (sobs x i).Pairwise (fun a b => a.1 + a.2.1 ≤ b.1)
  | 0 => by simp [sobs]
  | i + 1 => by
    have ih := sobs_apart h i
    by_cases hp : 0 < (x.S.getD i (0, 0)).1
    · rw [sobs_yes hp, List.pairwise_append]
      refine ⟨ih, by simp, fun a ha b hb => ?_⟩
      obtain ⟨j, h1, h2, rfl⟩ := mem_sobs ha
      simp only [List.mem_singleton] at hb
      subst hb
      have := (h.slotsz j).2
      have h3 : (j + 1) * x.rm ≤ i * x.rm := Nat.mul_le_mul_right _ (by omega)
      rw [Nat.add_mul] at h3
      simp only [adr]
      omega
    · rw [sobs_no hp]; exact ih
theorem sobs_in {x : Spn} (h : x.Ok) {o : Ob} (ho : o ∈ sobs x x.S.length) : o.1 % 8 = 0 ∧ 1 ≤ o.2.1 ∧ ((x.st : Int) + 1) * 256 ≤ o.1 ∧ o.1 + o.2.1 ≤ ((x.st : Int) + 1) * 256 + x.n * 256 ∧ o.2.1 ≤ x.rm := by
  obtain ⟨j, h1, h2, rfl⟩ := mem_sobs ho
  have h3 := (h.slotsz j).2
  have h4 := h.slot h1
  rw [Nat.add_mul] at h4
  have h8 := h.rm8
  have h5 : (j * x.rm) % 8 = 0 := by rw [Nat.mul_mod, h8]; simp
  simp only [adr]
  refine ⟨by omega, by omega, by omega, by omega, h3⟩
theorem objs_apart {L : List Spn} (hk : ∀ x ∈ L, x.Ok) (hp : L.Pairwise (fun x y => x.st + x.n ≤ y.st)) : (objs L).Pairwise (fun a b => a.1 + a.2.1 ≤ b.1) := by
  induction L with
  | nil => simp [objs]
  | cons x L ih =>
    obtain ⟨h1, h2⟩ := List.pairwise_cons.1 hp
    have e : objs (x :: L) = sobs x x.S.length ++ objs L := by simp [objs]
    rw [e, List.pairwise_append]
    refine ⟨sobs_apart (hk x (by simp)) _, ih (fun y hy => hk y (by simp [hy])) h2, fun a ha b hb => ?_⟩
    obtain ⟨y, hy, hb⟩ := List.mem_flatMap.1 hb
    have q1 := sobs_in (hk x (by simp)) ha
    have q2 := sobs_in (hk y (by simp [hy])) hb
    have := h1 y hy
    omega


theorem sobs_mem {x : Spn} {j : Nat} (hp : 0 < (x.S.getD j (0, 0)).1) : ∀ {i : Nat}, j < i → ((((adr x j : Nat) : Int), (x.S.getD j (0, 0)).1, (x.S.getD j (0, 0)).2) : Ob) ∈ sobs x i
  | 0, h => absurd h (Nat.not_lt_zero _)
  | i + 1, h => by
    rcases Nat.lt_or_eq_of_le (Nat.lt_succ_iff.1 h) with q | q
    · have ih := sobs_mem hp (i := i) q
      rw [sobs]
      exact List.mem_append_left _ ih
    · subst q
      rw [sobs_yes hp]
      simp
theorem objs_ob3 {H : Hs} {x : Ob} : x ∈ objs H.sp ↔ Ob3 H x.1 x.2.1 x.2.2 := by
  constructor
  · intro hx
    obtain ⟨y, hy, hx⟩ := List.mem_flatMap.1 hx
    obtain ⟨j, h1, h2, rfl⟩ := mem_sobs hx
    exact ⟨y, hy, j, by simp [List.getD, h1], h2, rfl⟩
  · rintro ⟨y, hy, j, h1, h2, h3⟩
    obtain ⟨hj, hv⟩ := List.getElem?_eq_some_iff.1 h1
    have hg : y.S.getD j (0, 0) = (x.2.1, x.2.2) := by simp [List.getD, hj, hv]
    have := sobs_mem (x := y) (j := j) (by rw [hg]; exact h2) hj
    rw [hg, h3] at this
    exact List.mem_flatMap.2 ⟨y, hy, this⟩

/-- What an object of the view is. -/
theorem vo_mem {M : Ms} {D : List Int} (h : Jd M D) {x : Ob} (hx : x ∈ objs M.H.sp) {y : Vo} (hy : voM M x = some y) : ∃ o, fndM M x.1 = some o ∧ y.a = x.1 ∧ y.s = x.2.1 ∧ y.t = x.2.2 ∧ y.r = refsM M o.nd := by
  unfold voM at hy
  cases ho : fndM M x.1 with
  | none => rw [ho] at hy; cases hy
  | some o =>
    rw [ho] at hy
    simp only [Option.some.injEq] at hy
    subst hy
    obtain ⟨t3, q3⟩ := h.o3 x.1 o (fndM_ob ho)
    obtain ⟨k3, j3, g1, _, g3⟩ := q3.found h.hv
    obtain ⟨k4, j4, g4, _, g6⟩ := (objs_ob3.1 hx).found h.hv
    rw [g1] at g4
    cases g4
    rw [g3] at g6
    have e1 : tagM M x.1 = t3 := by unfold tagM; rw [g1]; simp only; rw [g3]
    simp only [Prod.mk.injEq] at g6
    refine ⟨o, rfl, rfl, g6.1, ?_, rfl⟩
    simp only
    rw [e1, g6.2]
theorem vos_pair {M : Ms} {D : List Int} (h : Jd M D) : (vosM M (objs M.H.sp)).Pairwise (fun a b => a.a + a.s ≤ b.a) := by
  unfold vosM
  rw [List.pairwise_filterMap]
  refine (objs_apart h.hv.ok h.hv.sorted).imp_of_mem (fun {a b} ha hb hab x hx y hy => ?_)
  obtain ⟨_, _, a1, a2, _, _⟩ := vo_mem h ha hx
  obtain ⟨_, _, b1, _, _, _⟩ := vo_mem h hb hy
  rw [a1, a2, b1]
  exact hab
theorem vo_ok {M : Ms} {D : List Int} (h : Jd M D) {y : Vo} (hy : y ∈ vosM M (objs M.H.sp)) : Vok y ∧ ∃ z ∈ M.H.sp, ((z.st : Int) + 1) * 256 ≤ y.a ∧ y.a + y.s ≤ ((z.st : Int) + 1) * 256 + z.n * 256 := by
  obtain ⟨x, hx, hv⟩ := List.mem_filterMap.1 hy
  obtain ⟨_, _, e1, e2, e3, _⟩ := vo_mem h hx hv
  obtain ⟨z, hz, hs⟩ := List.mem_flatMap.1 hx
  have hq := sobs_in (h.hv.ok z hz) hs
  have hle := h.hv.le hz
  have hP := h.hv.P1
  obtain ⟨j, h1, h2, hj⟩ := mem_sobs hs
  have ht := (h.hv.ok z hz).tg (z.S.getD j (0, 0)) (by simp [List.getD, h1])
  have e4 : x.2.2 = (z.S.getD j (0, 0)).2 := by rw [hj]
  rw [← e4] at ht
  refine ⟨⟨by omega, by omega, by omega, by omega, by omega⟩, z, hz, by omega, by omega⟩
theorem vos_at {M : Ms} {D : List Int} (h : Jd M D) {a : Int} {o : Mo} (ho : fndM M a = some o) : ∃ j, j < (vosM M (objs M.H.sp)).length ∧ (vAt (vosM M (objs M.H.sp)) j).a = a := by
  obtain ⟨t, q⟩ := h.o3 a o (fndM_ob ho)
  have hm : ((a, (8 * o.sl.length : Int), t) : Ob) ∈ objs M.H.sp := objs_ob3.2 q
  have hv : voM M ((a, (8 * o.sl.length : Int), t) : Ob) = some ⟨a, 8 * o.sl.length, tagM M a, refsM M o.nd⟩ := by unfold voM; simp only; rw [ho]
  have hy := List.mem_filterMap.2 ⟨_, hm, hv⟩
  obtain ⟨j, hj, hg⟩ := List.mem_iff_getElem.1 hy
  have hj' : j < (vosM M (objs M.H.sp)).length := hj
  refine ⟨j, hj', ?_⟩
  rw [vAt_get hj']
  have : (vosM M (objs M.H.sp))[j] = ⟨a, 8 * o.sl.length, tagM M a, refsM M o.nd⟩ := hg
  rw [this]
theorem refs_at {M : Ms} {D : List Int} (h : Jd M D) {o : Mo} (hl : Co.lvB M.G o.nd = true) : (refsM M o.nd).length ≤ 8192 ∧ ∀ r ∈ refsM M o.nd, ∃ j, j < (vosM M (objs M.H.sp)).length ∧ (vAt (vosM M (objs M.H.sp)) j).a = r := by
  have hlv : 0 ≤ o.nd ∧ Co.lvN M.G o.nd.toNat := by unfold Co.lvB at hl; simpa using hl
  have es : Co.slV M.G o.nd = (Co.ndAt M.G.ns o.nd.toNat).s := by unfold Co.slV; rw [if_pos hl]
  unfold refsM
  rw [es]
  refine ⟨Nat.le_trans (refsF_len _ _) (h.iv.sl _), fun r hr => ?_⟩
  unfold refsF at hr
  obtain ⟨n, hn, rfl⟩ := List.mem_map.1 hr
  obtain ⟨hn1, hn2⟩ := List.mem_filter.1 hn
  have hne : n ≠ -1 := by simpa using hn2
  rcases h.iv.cl _ hlv.2 n hn1 with q | q
  · exact absurd q hne
  · have hq : 0 ≤ n ∧ Co.lvN M.G n.toNat := by unfold Co.lvB at q; simpa using q
    obtain ⟨a, ha⟩ := h.lv n.toNat hq.2.1
    have en : ((n.toNat : Nat) : Int) = n := by omega
    rw [en] at ha
    obtain ⟨o', h1, h2⟩ := h.ad n a ha
    have hf : fndM M a = some o' := by unfold fndM; rw [h1]; simp only; rw [h2, if_pos q]
    have e : adrM M n = a := by unfold adrM; rw [ha]; rfl
    rw [e]
    exact vos_at h hf
theorem fndM_lv {M : Ms} {a : Int} {o : Mo} (h : fndM M a = some o) : Co.lvB M.G o.nd = true := by
  unfold fndM at h
  split at h
  · next o' ho' =>
    split at h
    · next hl => cases h; exact hl
    · cases h
  · cases h
theorem nodes_found {M : Ms} : ∀ {R l : List Int}, nodesM M R = some l → ∀ a ∈ R, a ≠ 0 → ∃ o, fndM M a = some o
  | [], _, _, a, ha, _ => by cases ha
  | b :: R, l, h, a, ha, h0 => by
    unfold nodesM at h
    by_cases hb : b = 0
    · rw [if_pos hb] at h
      rcases List.mem_cons.1 ha with q | q
      · exact absurd (q.trans hb) h0
      · exact nodes_found h a q h0
    · rw [if_neg hb] at h
      cases hf : fndM M b with
      | none => rw [hf] at h; cases h
      | some o =>
        rw [hf] at h
        simp only at h
        cases hr : nodesM M R with
        | none => rw [hr] at h; cases h
        | some l' =>
          rcases List.mem_cons.1 ha with q | q
          · exact ⟨o, by rw [q]; exact hf⟩
          · exact nodes_found hr a q h0

theorem fr_pair : ∀ {L : List Rn} {pf : Bool} {a : Nat}, Tl pf a L → (fr L).Pairwise (fun x y => x.s + x.n < y.s) ∧ ∀ x ∈ fr L, a ≤ x.s ∧ (pf = true → a < x.s)
  | [], _, _, _ => ⟨by simp [fr], fun x hx => by simp [fr] at hx⟩
  | r :: L, pf, a, h => by
    obtain ⟨h1, h2, h3, h4⟩ := h
    obtain ⟨i1, i2⟩ := fr_pair h4
    cases hu : r.u with
    | true =>
      have e : fr (r :: L) = fr L := by simp [fr, hu]
      rw [e]
      exact ⟨i1, fun x hx => by have := (i2 x hx).1; exact ⟨by omega, fun _ => by omega⟩⟩
    | false =>
      have e : fr (r :: L) = r :: fr L := by simp [fr, hu]
      rw [e, List.pairwise_cons]
      refine ⟨⟨fun x hx => ?_, i1⟩, fun x hx => ?_⟩
      · have := (i2 x hx).2 (by rw [hu]; rfl)
        omega
      · rcases List.mem_cons.1 hx with q | q
        · subst q
          exact ⟨by omega, fun q => by have := h3 q; rw [hu] at this; cases this⟩
        · have := (i2 x q).1
          exact ⟨by omega, fun _ => by omega⟩
theorem tl_pair : ∀ {L : List Rn} {pf : Bool} {a : Nat}, Tl pf a L → L.Pairwise (fun x y => x.s + x.n ≤ y.s) ∧ ∀ x ∈ L, a ≤ x.s
  | [], _, _, _ => ⟨by simp, fun x hx => by cases hx⟩
  | r :: L, pf, a, h => by
    obtain ⟨h1, h2, _, h4⟩ := h
    obtain ⟨i1, i2⟩ := tl_pair h4
    rw [List.pairwise_cons]
    refine ⟨⟨fun x hx => by have := i2 x hx; omega, i1⟩, fun x hx => ?_⟩
    rcases List.mem_cons.1 hx with q | q
    · subst q; omega
    · have := i2 x q; omega
theorem tl_dis {L : List Rn} {pf : Bool} {a : Nat} (h : Tl pf a L) {x y : Rn} (hx : x ∈ L) (hy : y ∈ L) (hne : x ≠ y) : x.s + x.n ≤ y.s ∨ y.s + y.n ≤ x.s := by
  have hp := List.pairwise_iff_getElem.1 (tl_pair h).1
  obtain ⟨i, hi, rfl⟩ := List.mem_iff_getElem.1 hx
  obtain ⟨j, hj, rfl⟩ := List.mem_iff_getElem.1 hy
  rcases Nat.lt_trichotomy i j with q | q | q
  · exact .inl (hp i j hi hj q)
  · subst q; exact absurd rfl hne
  · exact .inr (hp j i hj hi q)

/-- The view of a sound memory is sound, but for the number of its cycles. -/
theorem Jd.vsd {M : Ms} {D : List Int} (h : Jd M D) {R l : List Int} (hl : nodesM M R = some l) (hR : R.length ≤ 17592186044415) (hcy : M.G.cy ≤ 2147483648) : Vsd (vosM M (objs M.H.sp)) (fr M.H.R) (vroots R) M.G.ph M.G.cy := by
  have hP := h.hv.P1
  have hlen : (vosM M (objs M.H.sp)).length ≤ 100000000 := by
    have h1 := vosM_len M (objs M.H.sp)
    have h2 := objs_len h.hv M.H.sp (fun x hx => hx)
    have h3 := h.hv.splen
    have h4 : M.H.sp.length * 65536 ≤ 1024 * 65536 := Nat.mul_le_mul_right _ (by omega)
    omega
  have hmem : ∀ k, k < (vosM M (objs M.H.sp)).length → vAt (vosM M (objs M.H.sp)) k ∈ vosM M (objs M.H.sp) := fun k hk => by rw [vAt_get hk]; exact List.getElem_mem hk
  have hpair := List.pairwise_iff_getElem.1 (vos_pair h)
  have hap : ∀ i j, i < j → j < (vosM M (objs M.H.sp)).length → (vAt (vosM M (objs M.H.sp)) i).a + (vAt (vosM M (objs M.H.sp)) i).s ≤ (vAt (vosM M (objs M.H.sp)) j).a := fun i j hij hj => by
    rw [vAt_get hj, vAt_get (Nat.lt_trans hij hj)]
    exact hpair i j _ hj hij
  have hfm : ∀ i, i < (fr M.H.R).length → rnAt (fr M.H.R) i ∈ M.H.R ∧ (rnAt (fr M.H.R) i).u = false := fun i hi => by
    have := rnAt_mem hi
    have := List.mem_filter.1 this
    exact ⟨this.1, by simpa using this.2⟩
  refine ⟨hlen, ?_, Nat.le_trans (vroots_len R) hR, fun i j hij hj => ?_, fun k hk => (vo_ok h (hmem k hk)).1, fun k hk => hap k (k + 1) (Nat.lt_succ_self k) hk, fun k hk => ?_, fun r hr => ?_, fun i hi => ?_, fun i hi => ?_, fun i k hi hk => ?_, ⟨by omega, by have := h.iv.ph; omega⟩, ⟨by omega, by omega⟩⟩
  · have h1 := fr_len M.H.R
    have h2 := h.hv.inv.len
    omega
  · have h1 := hap i j hij hj
    have h2 := (vo_ok h (hmem i (Nat.lt_trans hij hj))).1.s1
    omega
  · obtain ⟨x, hx, hv⟩ := List.mem_filterMap.1 (hmem k hk)
    obtain ⟨o, ho, _, _, _, e⟩ := vo_mem h hx hv
    rw [e]
    exact refs_at h (fndM_lv ho)
  · unfold vroots at hr
    obtain ⟨h1, h2⟩ := List.mem_filter.1 hr
    obtain ⟨o, ho⟩ := nodes_found hl r h1 (by simpa using h2)
    exact vos_at h ho
  · have h1 := hfm i hi
    have h2 := h.hv.inv.mem _ h1.1
    exact ⟨h2.1, by omega, h1.2⟩
  · have h1 := List.pairwise_iff_getElem.1 (fr_pair h.hv.inv.tl).1 i (i + 1) (by omega) hi (Nat.lt_succ_self i)
    have e1 : rnAt (fr M.H.R) i = (fr M.H.R)[i]'(by omega) := by simp [rnAt, List.getD, show i < (fr M.H.R).length by omega]
    have e2 : rnAt (fr M.H.R) (i + 1) = (fr M.H.R)[i + 1] := by simp [rnAt, List.getD, hi]
    rw [e1, e2]
    exact h1
  · obtain ⟨_, z, hz, q1, q2⟩ := vo_ok h (hmem k hk)
    have h1 := hfm i hi
    have h2 : z.run ∈ M.H.R := by
      have : z.run ∈ used M.H.R := by rw [← h.hv.run]; exact List.mem_map_of_mem hz
      exact (List.mem_filter.1 this).1
    have h3 : z.run ≠ rnAt (fr M.H.R) i := fun e => by have := h1.2; rw [← e] at this; cases this
    have h4 := tl_dis h.hv.inv.tl h2 h1.1 h3
    simp only [Spn.run] at h4
    omega
end Go.Proofs.YtjbbomokgpoilaaGreatDoor
