/-
  What is known of a type by its parts; no statement is proved here.
-/
import Derived.Test.YtfabhhmeanpmhaaDoorFormed
namespace Go.Proofs.YtfabhhmeanpmhaaDoor
open Go.RowKit

/-- A measure in memory. -/
structure MeAt (w : World) (b o : Nat) (m : Me) : Prop where
  c0 : w.cell? ⟨b, o, none⟩ = some (.int .i64 m.width)
  c1 : w.cell? ⟨b, o + 1, none⟩ = some (.int .i64 m.words)
  c2 : w.cell? ⟨b, o + 2, none⟩ = some (.bool m.cmp)
theorem MeAt.keep {S : List Nat} {w w' : World} {b o : Nat} {m : Me} (h : MeAt w b o m) (e : Ext S w w') (hs : b ∉ S) : MeAt w' b o m :=
  ⟨e.cell h.c0 hs, e.cell h.c1 hs, e.cell h.c2 hs⟩

def meVal (m : Me) : Value := .agg #[.int .i64 m.width, .int .i64 m.words, .bool m.cmp]

/-- Measures in memory. -/
def Mss (w : World) (b o : Nat) (E : List Me) : Prop := ∀ i, i < E.length → MeAt w b (o + i * 3) (at' E i)
theorem Mss.keep {S : List Nat} {w w' : World} {b o : Nat} {E : List Me} (h : Mss w b o E) (e : Ext S w w') (hs : b ∉ S) : Mss w' b o E := fun i hi => (h i hi).keep e hs

/-- Measures of which sums can be made. -/
def Mild (E : List Me) : Prop := ∀ i, i < E.length → 0 ≤ (at' E i).width ∧ (at' E i).width ≤ 16 ∧ 0 ≤ (at' E i).words ∧ (at' E i).words ≤ 32

theorem sum_rep (E : List Me) (p : Int) : ∀ n, sumWidth E (List.replicate n p) = n * (at' E p).width ∧ sumWords E (List.replicate n p) = n * (at' E p).words
  | 0 => by simp [sumWidth, sumWords]
  | n + 1 => by
    obtain ⟨a, b⟩ := sum_rep E p n
    rw [List.replicate_succ, sumWidth, sumWords, a, b]
    have e : ((n + 1 : Nat) : Int) = n + 1 := by omega
    rw [e, Int.add_mul, Int.add_mul]
    omega
theorem cmp_rep (E : List Me) (p : Int) : ∀ n, allCmp E (List.replicate (n + 1) p) = (at' E p).cmp
  | 0 => by simp [allCmp]
  | n + 1 => by rw [List.replicate_succ, allCmp, cmp_rep E p n]; simp

theorem sums_mild {E : List Me} (hM : Mild E) : ∀ {l : List Int}, (∀ p ∈ l, 0 ≤ p ∧ p < E.length) → 0 ≤ sumWidth E l ∧ sumWidth E l ≤ 16 * l.length ∧ 0 ≤ sumWords E l ∧ sumWords E l ≤ 32 * l.length
  | [], _ => by simp [sumWidth, sumWords]
  | x :: l, h => by
    obtain ⟨e, f, g, i⟩ := sums_mild hM (l := l) (fun p hp => h p (by simp [hp]))
    obtain ⟨h0, h1⟩ := h x (by simp)
    obtain ⟨q, rfl⟩ : ∃ q : Nat, x = q := ⟨x.toNat, by omega⟩
    obtain ⟨a, b, c, d⟩ := hM q (by omega)
    simp only [sumWidth, sumWords, List.length_cons]
    omega

/-- The measure m, in new memory if at all. -/
def MePost (w : World) (m : Me) (e : Ending) (w' : World) : Prop := e = .returned (meVal m) ∧ Ext [] w w'

theorem set3 {w : World} {q : Nat} {T : TypeId} {a b c a' b' c' : Value} (h : w.heap[q]? = some (.cells #[a, b, c] T (0, 0))) : (((w.setCell ⟨q, 0, none⟩ a').setCell ⟨q, 1, none⟩ b').setCell ⟨q, 2, none⟩ c').heap[q]? = some (.cells #[a', b', c'] T (0, 0)) := by
  rw [heap_setCell_same _ q 2 _ _ _ (heap_setCell_same _ q 1 _ _ _ (heap_setCell_same w q 0 _ _ _ h))]
  rfl

set_option maxRecDepth 100000 in
set_option maxHeartbeats 1000000 in
theorem measured_struct (t : Ty) (fa : Option Addr) (fc eb eo m ec : Nat) (E : List Me) (w : World) (hk : t.kind = 8) (hF : FOk w t fa) (hE : Mss w eb eo E) (hm : E.length = m) (hM : Mild E) (hmm : m ≤ 64) (hp : ∀ p ∈ t.fields, 0 ≤ p ∧ p < m) (hlen : t.fields.length ≤ 16) (heb : eb < w.heap.size) :
    Calls Tryd.prog 78 #[tyVal t fa fc, .slice (some ⟨eb, eo, none⟩) m ec] w (MePost w (meas t E)) := by
  unfold tyVal
  rw [hk]
  have HF := hid hF
  have HE := hid hE
  have HM := hid hM
  have HL := hid hm
  have HP := hid hp
  have HK := hid hk
  have hne : eb ≠ w.heap.size ∧ eb ≠ w.heap.size + 1 ∧ eb ≠ w.heap.size + 1 + 1 := by omega
  clear hF hE hM hm hp hk
  go_enter Tryd.func78, Tryd.ntmps78
  go_wp2
  have hq : (((w.alloc (.cells #[.int .i64 8, .int .i64 t.elem, .int .i64 t.key, .int .i64 t.len, .slice fa t.fields.length fc] 45)).alloc (.cells #[.int .i64 0, .int .i64 0, .bool false] 79)).alloc (.cells #[.int .i64 0, .int .i64 0, .bool true] 79)).heap[w.heap.size + 1 + 1]? = some (.cells #[.int .i64 0, .int .i64 0, .bool true] 79 (0, 0)) := by
    have := heap_alloc_new ((w.alloc (.cells #[.int .i64 8, .int .i64 t.elem, .int .i64 t.key, .int .i64 t.len, .slice fa t.fields.length fc] 45)).alloc (.cells #[.int .i64 0, .int .i64 0, .bool false] 79)) (.cells #[.int .i64 0, .int .i64 0, .bool true] 79)
    simpa using this
  have hr : (((w.alloc (.cells #[.int .i64 8, .int .i64 t.elem, .int .i64 t.key, .int .i64 t.len, .slice fa t.fields.length fc] 45)).alloc (.cells #[.int .i64 0, .int .i64 0, .bool false] 79)).alloc (.cells #[.int .i64 0, .int .i64 0, .bool true] 79)).heap[w.heap.size + 1]? = some (.cells #[.int .i64 0, .int .i64 0, .bool false] 79 (0, 0)) := by
    have := heap_alloc_new (w.alloc (.cells #[.int .i64 8, .int .i64 t.elem, .int .i64 t.key, .int .i64 t.len, .slice fa t.fields.length fc] 45)) (.cells #[.int .i64 0, .int .i64 0, .bool false] 79)
    exact Ext.keep (Ext.alloc [] _ _) (by simpa using this) (by simp)
  have hE3 : Ext [] w (((w.alloc (.cells #[.int .i64 8, .int .i64 t.elem, .int .i64 t.key, .int .i64 t.len, .slice fa t.fields.length fc] 45)).alloc (.cells #[.int .i64 0, .int .i64 0, .bool false] 79)).alloc (.cells #[.int .i64 0, .int .i64 0, .bool true] 79)) := ((Ext.alloc _ _ _).trans (Ext.alloc _ _ _)).trans (Ext.alloc _ _ _)
  generalize (((w.alloc (.cells #[.int .i64 8, .int .i64 t.elem, .int .i64 t.key, .int .i64 t.len, .slice fa t.fields.length fc] 45)).alloc (.cells #[.int .i64 0, .int .i64 0, .bool false] 79)).alloc (.cells #[.int .i64 0, .int .i64 0, .bool true] 79)) = w3 at *
  have HQ := hid hq
  have HR := hid hr
  have HE3 := hid hE3
  clear hq hr hE3
  go_loopw [25] (fun u wr => ∃ k : Nat, u = .int .i64 k ∧ k ≤ t.fields.length ∧ wr.heap[w.heap.size + 1 + 1]? = some (.cells #[.int .i64 (sumWidth E (t.fields.take k)), .int .i64 (sumWords E (t.fields.take k)), .bool (allCmp E (t.fields.take k))] 79 (0, 0)) ∧ Ext [w.heap.size + 1 + 1] w3 wr) (fun u _ => (t.fields.length - (intOf u)).toNat)
  case atStart => exact ⟨0, rfl, Nat.zero_le _, HQ.out, Ext.refl _ _⟩
  case round =>
    obtain ⟨k, rfl, hkl, hq, hE4⟩ := hrel
    have HE4 := hid hE4
    have HQ4 := hid hq
    clear hE4
    by_cases hkm : k < t.fields.length
    · obtain ⟨fb, fo, rfl, hfc⟩ := HF.out.1.at_ (by intro h; rw [h] at hkm; simp at hkm)
      have hck := HE4.out.cell (HE3.out.cell (hfc k hkm) (by simp)) (by have := block_lt_of_cell (hfc k hkm); simp at this ⊢; omega)
      clear hfc
      have hmem : t.fields.getD k 0 ∈ t.fields := by simp [List.getD, hkm]
      obtain ⟨p0, p1⟩ := HP.out _ hmem
      have hw := sumWidth_snoc E t.fields k hkm
      have hd := sumWords_snoc E t.fields k hkm
      have hb := allCmp_snoc E t.fields k hkm
      have hbd := sums_mild HM.out (l := t.fields.take k) (fun p hp => by rw [HL.out]; exact HP.out p (List.mem_of_mem_take hp))
      have hkl2 : (t.fields.take k).length ≤ 16 := by rw [List.length_take]; omega
      generalize t.fields.getD k 0 = p at *
      obtain ⟨j, rfl⟩ : ∃ j : Nat, p = j := ⟨p.toNat, by omega⟩
      have hme := (HE.out j (by have := HL.out; omega)).keep (HE3.out) (by simp)
      have hme := hme.keep HE4.out (by simp; omega)
      have hmi := HM.out j (by have := HL.out; omega)
      obtain ⟨e0, e1, e2⟩ := hme
      generalize at' E j = x at *
      generalize sumWidth E (t.fields.take k) = sw at *
      generalize sumWords E (t.fields.take k) = sd at *
      generalize allCmp E (t.fields.take k) = sb at *
      obtain ⟨i1, i2, i3, i4⟩ := hmi
      obtain ⟨j1, j2, j3, j4⟩ := hbd
      have HW := hid hw
      have HD := hid hd
      have HB := hid hb
      clear hw hd hb hmem
      have q0 : wr.cell? ⟨w.heap.size + 1 + 1, 0, none⟩ = some (.int .i64 sw) := by rw [cell_of_row _ _ _ _ _ _ hq]; rfl
      have q1 : wr.cell? ⟨w.heap.size + 1 + 1, 1, none⟩ = some (.int .i64 sd) := by rw [cell_of_row _ _ _ _ _ _ hq]; rfl
      have q2 : wr.cell? ⟨w.heap.size + 1 + 1, 2, none⟩ = some (.bool sb) := by rw [cell_of_row _ _ _ _ _ _ hq]; rfl
      have qf : ∀ i, wr.frozen? ⟨w.heap.size + 1 + 1, i, none⟩ = false := fun i => frozen_of_row _ _ i _ _ hq
      clear hq
      go_wp2_with fail
      go_region_with (fail)
      all_goals go_wp2_with fail
      all_goals go_region_with (fail)
      all_goals cases sb
      all_goals go_wp2_with fail
      all_goals go_roundw
      case measure => simp [intOf]; omega
      case measure => simp [intOf]; omega
      case measure => simp [intOf]; omega
      case measure => simp [intOf]; omega
      case measure => simp [intOf]; omega
      case measure => simp [intOf]; omega
      case measure => simp [intOf]; omega
      case measure => simp [intOf]; omega
      all_goals exact ⟨k + 1, by go_num, by omega, (set3 HQ4.out).trans (by rw [HW.out, HD.out, HB.out]; rfl), HE4.out.trans ((((Ext.setCell _ _ _ _ (by simp)).trans (Ext.setCell _ _ _ _ (by simp))).trans (Ext.setCell _ _ _ _ (by simp))).trans ((Ext.drew _ _).trans (Ext.drew _ _)))⟩
    · obtain rfl : k = t.fields.length := by omega
      rw [List.take_length] at hq
      have hr := HE4.out.keep HR.out (by simp)
      have hx : meas t E = ⟨sumWidth E t.fields, sumWords E t.fields, allCmp E t.fields, allPtrs E t.fields⟩ := by
        unfold meas parts; simp [HK.out]
      have HX := hid hx
      clear hx
      have q0 : wr.cell? ⟨w.heap.size + 1 + 1, 0, none⟩ = some (.int .i64 (sumWidth E t.fields)) := by rw [cell_of_row _ _ _ _ _ _ hq]; rfl
      have q1 : wr.cell? ⟨w.heap.size + 1 + 1, 1, none⟩ = some (.int .i64 (sumWords E t.fields)) := by rw [cell_of_row _ _ _ _ _ _ hq]; rfl
      have q2 : wr.cell? ⟨w.heap.size + 1 + 1, 2, none⟩ = some (.bool (allCmp E t.fields)) := by rw [cell_of_row _ _ _ _ _ _ hq]; rfl
      have r0 : wr.cell? ⟨w.heap.size + 1, 0, none⟩ = some (.int .i64 0) := by rw [cell_of_row _ _ _ _ _ _ hr]; rfl
      have r1 : wr.cell? ⟨w.heap.size + 1, 1, none⟩ = some (.int .i64 0) := by rw [cell_of_row _ _ _ _ _ _ hr]; rfl
      have r2 : wr.cell? ⟨w.heap.size + 1, 2, none⟩ = some (.bool false) := by rw [cell_of_row _ _ _ _ _ _ hr]; rfl
      have rf : ∀ i, wr.frozen? ⟨w.heap.size + 1, i, none⟩ = false := fun i => frozen_of_row _ _ i _ _ hr
      have HR4 := hid hr
      clear hq hr HQ4
      generalize sumWidth E t.fields = sw at *
      generalize sumWords E t.fields = sd at *
      generalize allCmp E t.fields = sb at *
      go_wp2_with fail
      refine bodyPost_ret (v := .agg #[.int .i64 sw, .int .i64 sd, .bool sb]) (by simp [results, Tryd.results78, go_sem, r0, r1, r2]) rfl ⟨?_, ?_⟩
      · rw [HX.out]; rfl
      · exact ((HE3.out.mono (by simp)).trans (HE4.out.mono (T := [w.heap.size + 1 + 1, w.heap.size + 1]) (by simp))).trans (((Ext.setCell _ _ _ _ (by simp)).trans (Ext.setCell _ _ _ _ (by simp))).trans (Ext.setCell _ _ _ _ (by simp))) |>.drop (by simp; omega)

set_option maxRecDepth 100000 in
set_option maxHeartbeats 1000000 in
theorem measured_array (t : Ty) (fa : Option Addr) (fc eb eo m ec : Nat) (E : List Me) (w : World) (hk : t.kind = 9) (hE : Mss w eb eo E) (hm : E.length = m) (hM : Mild E) (hp : 0 ≤ t.elem ∧ t.elem < m) (hlen : 1 ≤ t.len ∧ t.len ≤ 16) (heb : eb < w.heap.size) :
    Calls Tryd.prog 78 #[tyVal t fa fc, .slice (some ⟨eb, eo, none⟩) m ec] w (MePost w (meas t E)) := by
  unfold tyVal
  rw [hk]
  have hx : meas t E = ⟨t.len * (at' E t.elem).width, t.len * (at' E t.elem).words, (at' E t.elem).cmp, allPtrs E (parts t)⟩ := by
    obtain ⟨k, hk'⟩ : ∃ k : Nat, t.len = ((k + 1 : Nat) : Int) := ⟨t.len.toNat - 1, by omega⟩
    have hs := sum_rep E t.elem (k + 1)
    have hc := cmp_rep E t.elem k
    have hpt : parts t = List.replicate (k + 1) t.elem := by unfold parts; rw [if_neg (by omega), if_pos hk, hk']; rfl
    unfold meas
    rw [if_neg (by omega), if_neg (by omega), if_neg (by omega), if_pos (.inr hk), hpt, hs.1, hs.2, hc, hk']
  obtain ⟨hp0, hp1⟩ := hp
  obtain ⟨hl0, hl1⟩ := hlen
  obtain ⟨j, hj⟩ : ∃ j : Nat, t.elem = j := ⟨t.elem.toNat, by omega⟩
  rw [hj] at hp1 hp0 hx
  have hjm : j < m := by omega
  rw [hj]
  have hme := hE j (by omega)
  have hmi := hM j (by omega)
  generalize at' E j = x at *
  obtain ⟨e0, e1, e2⟩ := hme
  obtain ⟨i1, i2, i3, i4⟩ := hmi
  have m1 : 0 ≤ t.len * x.width := Int.mul_nonneg (by omega) i1
  have m2 : t.len * x.width ≤ 16 * 16 := Int.mul_le_mul hl1 i2 i1 (by omega)
  have m3 : 0 ≤ t.len * x.words := Int.mul_nonneg (by omega) i3
  have m4 : t.len * x.words ≤ 16 * 32 := Int.mul_le_mul hl1 i4 i3 (by omega)
  have w1 : IntKind.i64.wrap (t.len * x.width) = t.len * x.width := by rw [IntKind.wrap_i64]; omega
  have w2 : IntKind.i64.wrap (t.len * x.words) = t.len * x.words := by rw [IntKind.wrap_i64]; omega
  have HX := hid hx
  have hne : eb ≠ w.heap.size ∧ eb ≠ w.heap.size + 1 ∧ eb ≠ w.heap.size + 1 + 1 := by omega
  clear hx hk hj hE hM hm
  go_enter Tryd.func78, Tryd.ntmps78
  go_wp2_with fail
  refine bodyPost_ret (v := .agg #[.int .i64 (t.len * x.width), .int .i64 (t.len * x.words), .bool x.cmp]) (by simp [results, Tryd.results78, go_sem]) rfl ⟨?_, ?_⟩
  · rw [HX.out]; rfl
  · exact ((Ext.alloc _ _ _).trans (Ext.alloc _ _ _)).trans (Ext.alloc _ _ _)

set_option maxRecDepth 100000 in
theorem measured_plain (t : Ty) (fa : Option Addr) (fc : Nat) (ea : Option Addr) (m ec : Nat) (E : List Me) (w : World) (hk8 : t.kind ≠ 8) (hk9 : t.kind ≠ 9) :
    Calls Tryd.prog 78 #[tyVal t fa fc, .slice ea m ec] w (MePost w (meas t E)) := by
  unfold tyVal
  by_cases h4 : t.kind = 4
  · have HX : Hid (meVal (meas t E) = .agg #[.int .i64 1, .int .i64 2, .bool true]) := by show meVal (meas t E) = _; unfold meas; rw [if_pos h4]; rfl
    rw [h4]
    clear h4 hk8 hk9
    go_enter Tryd.func78, Tryd.ntmps78
    go_wp2_with fail
    refine bodyPost_ret (v := .agg #[.int .i64 1, .int .i64 2, .bool true]) (by simp [results, Tryd.results78, go_sem]) rfl ⟨by rw [HX.out], (Ext.alloc _ _ _).trans (Ext.alloc _ _ _)⟩
  by_cases h7 : t.kind = 7
  · have HX : Hid (meVal (meas t E) = .agg #[.int .i64 1, .int .i64 2, .bool true]) := by show meVal (meas t E) = _; unfold meas; rw [if_neg h4, if_pos h7]; rfl
    rw [h7]
    clear h4 h7 hk8 hk9
    go_enter Tryd.func78, Tryd.ntmps78
    go_wp2_with fail
    refine bodyPost_ret (v := .agg #[.int .i64 1, .int .i64 2, .bool true]) (by simp [results, Tryd.results78, go_sem]) rfl ⟨by rw [HX.out], (Ext.alloc _ _ _).trans (Ext.alloc _ _ _)⟩
  by_cases h6 : t.kind = 6
  · have HX : Hid (meVal (meas t E) = .agg #[.int .i64 1, .int .i64 1, .bool false]) := by show meVal (meas t E) = _; unfold meas; rw [if_neg h4, if_neg h7, if_pos (.inl h6)]; rfl
    rw [h6]
    clear h4 h7 h6 hk8 hk9
    go_enter Tryd.func78, Tryd.ntmps78
    go_wp2_with fail
    refine bodyPost_ret (v := .agg #[.int .i64 1, .int .i64 1, .bool false]) (by simp [results, Tryd.results78, go_sem]) rfl ⟨by rw [HX.out], (Ext.alloc _ _ _).trans (Ext.alloc _ _ _)⟩
  by_cases h10 : t.kind = 10
  · have HX : Hid (meVal (meas t E) = .agg #[.int .i64 1, .int .i64 1, .bool false]) := by show meVal (meas t E) = _; unfold meas; rw [if_neg h4, if_neg h7, if_pos (.inr h10)]; rfl
    rw [h10]
    clear h4 h7 h6 h10 hk8 hk9
    go_enter Tryd.func78, Tryd.ntmps78
    go_wp2_with fail
    refine bodyPost_ret (v := .agg #[.int .i64 1, .int .i64 1, .bool false]) (by simp [results, Tryd.results78, go_sem]) rfl ⟨by rw [HX.out], (Ext.alloc _ _ _).trans (Ext.alloc _ _ _)⟩
  · have HX : Hid (meVal (meas t E) = .agg #[.int .i64 1, .int .i64 1, .bool true]) := by
      show meVal (meas t E) = _
      unfold meas
      rw [if_neg h4, if_neg h7, if_neg (by omega), if_neg (by omega)]
      split <;> rfl
    have b4 : (t.kind == 4) = false := by simpa using h4
    have b7 : (t.kind == 7) = false := by simpa using h7
    have b6 : (t.kind == 6) = false := by simpa using h6
    have b10 : (t.kind == 10) = false := by simpa using h10
    have b8 : (t.kind == 8) = false := by simpa using hk8
    have b9 : (t.kind == 9) = false := by simpa using hk9
    clear h4 h7 h6 h10 hk8 hk9
    go_enter Tryd.func78, Tryd.ntmps78
    go_wp2_with fail
    refine bodyPost_ret (v := .agg #[.int .i64 1, .int .i64 1, .bool true]) (by simp [results, Tryd.results78, go_sem]) rfl ⟨by rw [HX.out], (Ext.alloc _ _ _).trans (Ext.alloc _ _ _)⟩

/-- What a type whose parts are the first m types is measured as. -/
theorem measured_any (ts : List Ty) (i : Nat) (t : Ty) (ht : tyAt ts i = t) (fa : Option Addr) (fc eb eo ec : Nat) (E : List Me) (w : World) (hfm : Formed ts i) (hF : FOk w t fa) (hE : Mss w eb eo E) (hm : E.length = i) (hM : Mild E) (hmm : i ≤ 64) (heb : eb < w.heap.size) :
    Calls Tryd.prog 78 #[tyVal t fa fc, .slice (some ⟨eb, eo, none⟩) i ec] w (MePost w (meas t E)) := by
  obtain ⟨_, _, _, h8, h9, _⟩ := hfm
  rw [ht] at h8 h9
  by_cases k8 : t.kind = 8
  · obtain ⟨_, a2, a3⟩ := h8 k8
    exact measured_struct t fa fc eb eo i ec E w k8 hF hE hm hM hmm (fun p hp => ⟨(a3 p hp).1, (a3 p hp).2.1⟩) a2 heb
  by_cases k9 : t.kind = 9
  · obtain ⟨a1, a2, a3⟩ := h9 k9
    exact measured_array t fa fc eb eo i ec E w k9 hE hm hM ⟨a3.1, a3.2.1⟩ ⟨a1, a2⟩ heb
  · exact measured_plain t fa fc _ i ec E w k8 k9

end Go.Proofs.YtfabhhmeanpmhaaDoor
