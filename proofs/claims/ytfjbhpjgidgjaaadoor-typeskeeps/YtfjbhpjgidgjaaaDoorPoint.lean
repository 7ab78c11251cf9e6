/-
  The program's pointers of a type, and the statements' small helpers; no statement is proved here.
-/
import Derived.Test.YtfjbhpjgidgjaaaDoorPtrs
import Derived.Test.YtfjbhpjgidgjaaaDoorCopy
namespace Go.Proofs.YtfjbhpjgidgjaaaDoor
open Go.RowKit

/-! ### same bools -/

theorem sameBools_true (a b : Option Addr) (n c d : Nat) (xs : List Bool) (w : World) (ha : Os w a xs) (hb : Os w b xs) (hn : xs.length = n) (hm : n ≤ 1000) :
    Calls Tryd.prog 20 #[.slice a n c, .slice b n d] w (SayPost w (.bool true)) := by
  by_cases h0 : n = 0
  · subst h0
    go_enter Tryd.func20, Tryd.ntmps20
    go_wp2
    go_loop [5] (fun q => q = .int .i64 0) (fun _ => 0)
    case atStart => rfl
    case round =>
      subst hrel
      go_wp2
      go_ret
      exact ⟨rfl, Ext.refl _ _⟩
  · have hne : xs ≠ [] := by rintro rfl; simp at hn; omega
    obtain ⟨b1, o1, rfl, hc1⟩ := ha.at_ hne
    obtain ⟨b2, o2, rfl, hc2⟩ := hb.at_ hne
    rw [hn] at hc1 hc2
    have H1 := hid hc1
    have H2 := hid hc2
    clear hc1 hc2 ha hb hn hne
    go_enter Tryd.func20, Tryd.ntmps20
    go_wp2
    go_loopw [5] (fun q wr => ∃ k m : Nat, q = .int .i64 k ∧ k ≤ n ∧ wr = w.drewN m) (fun q _ => (n - (intOf q)).toNat)
    case atStart => exact ⟨0, 0, rfl, Nat.zero_le _, rfl⟩
    case round =>
      obtain ⟨k, m, rfl, hk, rfl⟩ := hrel
      by_cases hkn : k < n
      · have hx := H1.out k hkn
        have hy := H2.out k hkn
        generalize xs.getD k false = x at *
        cases x
        all_goals
          go_wp2
          go_quiet (fail)
          go_wp2
          go_roundw
          case rel => exact ⟨k + 1, _, by go_num, by omega, rfl⟩
          case measure => simp [intOf]; omega
      · go_wp2
        go_ret
        exact ⟨rfl, Ext.drewN _ _ _⟩

/-! ### the pointers of a type -/

def PtrPost (w : World) (xs : List Bool) (x : Int) (e : Ending) (w' : World) : Prop :=
  ∃ a c, e = .returned (.tuple #[.slice a xs.length c, .int .i64 x]) ∧ Os w' a xs ∧ Ext [] w w' ∧ w'.ownsRow w.heap.size 4 1 (.slice a xs.length c) xs.length (xs.map Value.bool)

theorem sound_fit {ts : List Ty} (h : Sound ts) {i : Nat} (hi : i < ts.length) : Fit (M ts i) ∧ (M ts i).width ≤ 16 :=
  ⟨fit_of ts (i + 1) i (by omega) hi (fun j hj => (h.2.1 j (by omega)).1), (h.2.1 i hi).2⟩

theorem mo_ptrs {ts : List Ty} {t : Int} (h : bad ts t ≠ 0) : (mo ts t).ptrs = [] := by rw [mo_no h]; rfl

theorem bad_zero {ts : List Ty} {t : Int} (h : bad ts t = 0) : Sound ts ∧ 0 ≤ t ∧ t < ts.length := by
  by_cases hs : Sound ts
  · by_cases ht : 0 ≤ t ∧ t < ts.length
    · exact ⟨hs, ht⟩
    · rw [bad_arg hs ht] at h; omega
  · rw [bad_form hs] at h; omega

set_option maxRecDepth 100000 in
theorem pointers_any (a : Option Addr) (ts : List Ty) (n c : Nat) (t : Int) (w : World) (hT : Tab w a ts) (hn : ts.length = n) (hc : n ≤ c) (hG : Gl w) :
    Calls Tryd.prog 15 #[.slice a n c, .int .i64 t] w (PtrPost w (mo ts t).ptrs (bad ts t)) := by
  have K := measureOf_any a ts n c t w hT hn hc hG
  by_cases hb : bad ts t = 0
  · obtain ⟨hs, t0, t1⟩ := bad_zero hb
    obtain ⟨j, rfl⟩ : ∃ j : Nat, t = j := ⟨t.toNat, by omega⟩
    rw [mo_ok hb, hb] at K ⊢
    obtain ⟨hf, h16⟩ := sound_fit hs (i := j) (by omega)
    have KA := append_any ts a n c w hT hn hs.2.1 (by have := hs.1; omega) (j + 1) j (by omega) (by omega)
    have hw1 := hf.d0; have hw2 := hf.dw; have hw3 := hf.len
    generalize M ts j = m at *
    have hw4 : m.ptrs.length ≤ 1000 := by omega
    obtain ⟨nw, hnw⟩ : ∃ nw : Nat, m.words = nw := ⟨m.words.toNat, by omega⟩
    have HKA := hid KA
    have HH4 := hid hw4
    have HNW := hid hnw
    have hnw2 : nw ≤ 1000 := by omega
    clear hT hn hG hs hb t0 t1 hf h16 hw1 hw2 hw3 KA hw4 hnw
    obtain ⟨i, hi, hz0, hz1, hz2⟩ := info_parts info4
    have hr := fun W => run_make (P := Tryd.prog) W 29 4 i _ Tryd.underlying29 hi hz0 .i64 .i64 0 nw (by omega) (by omega) (by rw [hz2]; omega) (by omega)
    rw [hz1] at hr
    simp only [Int.toNat_natCast, Int.toNat_zero] at hr
    clear hz0 hz1 hz2 hi i
    go_enter Tryd.func15, Tryd.ntmps15
    go_wp2_with fail
    refine K.mono ?_
    clear K
    rintro e w1 ⟨rfl, hE1⟩
    rw [HNW.out]
    have HE1 := hid hE1
    clear hE1
    have hr2 := hr (w1.alloc (.cells #[.int .i64 m.width, .int .i64 nw, .bool m.cmp] 60))
    clear hr
    go_wp2_with fail
    refine (HKA.out _ [] _ ?_ ((HE1.out.trans (Ext.alloc _ _ _)).trans (Ext.alloc _ _ _)) (by simpa using HH4.out)).mono ?_
    · have hh : ((w1.alloc (.cells #[.int .i64 m.width, .int .i64 nw, .bool m.cmp] 60)).alloc (.cells (madeCells #[.bool false] nw) 4)).heap[w1.heap.size + 1]? = some (.cells (madeCells #[.bool false] nw) 4 (0, 0)) := by
        have := heap_alloc_new (w1.alloc (.cells #[.int .i64 m.width, .int .i64 nw, .bool m.cmp] 60)) (.cells (madeCells #[.bool false] nw) 4)
        simpa using this
      refine ⟨rfl, .inr ⟨_, nw, _, rfl, ?_, hh, Nat.zero_le _, by unfold maxLen; omega, ?_, rfl⟩⟩
      · have := HE1.out.size; omega
      · rw [← Array.length_toList, toList_madeCells_one]; simp
    · rintro e w2 ⟨v, rfl, hO, hE2, _⟩
      obtain ⟨a', c', rfl, _⟩ := own_slice hO
      simp only [List.nil_append] at hO
      have HO := hid hO
      have HE2 := hid hE2
      clear hO hE2 hr2
      go_wp2_with fail
      go_ret2
      exact ⟨a', c', rfl, own_vs HO.out, HE2.out, HO.out⟩
  · rw [mo_ptrs hb, mo_no hb] at *
    have hx : (bad ts t != 0) = true := by simpa using hb
    generalize bad ts t = x at *
    clear hT hn hG hb
    go_enter Tryd.func15, Tryd.ntmps15
    go_wp2_with fail
    refine K.mono ?_
    clear K
    rintro e w1 ⟨rfl, hE1⟩
    have HE1 := hid hE1
    clear hE1
    go_wp2_with fail
    go_ret2
    exact ⟨none, 0, rfl, .inl rfl, HE1.out.trans (Ext.alloc _ _ _), own_nil _ _ _ _⟩

/-! ### awake -/

def one4 : Ty := ⟨4, 0, 0, 0, []⟩
theorem one4_sound : Sound [one4] := by
  have h0 : ∀ i : Nat, i < [one4].length → i = 0 := fun i hi => by simp at hi; omega
  refine ⟨by simp, fun i hi => ?_, fun i hi => ?_⟩
  · rw [h0 i hi]
    have e : tyAt [one4] (0 : Nat) = one4 := rfl
    refine ⟨⟨?_, ?_⟩, by decide⟩
    · rw [e]; simp [Clean, one4]
    · rw [e]; simp [one4]
  · rw [h0 i hi]
    intro h
    exact absurd h (by decide)
theorem one4_mo : mo [one4] 0 = ⟨1, 2, true, [true, false]⟩ ∧ bad [one4] 0 = 0 := by
  have hb : bad [one4] 0 = 0 := bad_ok one4_sound (by simp)
  exact ⟨by rw [mo_ok hb]; rfl, hb⟩

theorem awake_any (w : World) (hG : Gl w) : Calls Tryd.prog 9 #[] w (SayPost w (.bool true)) := by
  have hE := Ext.alloc [] w (.cells #[.int .i64 4, .int .i64 0, .int .i64 0, .int .i64 0, .slice none 0 0] 48)
  have hT : Tab (w.alloc (.cells #[.int .i64 4, .int .i64 0, .int .i64 0, .int .i64 0, .slice none 0 0] 48)) (some ⟨w.heap.size, 0, none⟩) [one4] := by
    refine ⟨.inr ⟨w.heap.size, 0, rfl, fun i hi => ⟨none, 0, ?_⟩⟩, by simp⟩
    obtain rfl : i = 0 := by simp at hi; omega
    have hb := Boxed.new w one4 none 0
    exact ⟨hb.c0, hb.c1, hb.c2, hb.c3, hb.c4, .inl rfl, by simp [tyAt, one4]⟩
  have K := words_any (some ⟨w.heap.size, 0, none⟩) [one4] 1 1 0 _ hT rfl (Nat.le_refl _) (hG.keep0 hE)
  rw [one4_mo.1, one4_mo.2] at K
  have HE := hid hE
  clear hE hT hG
  go_enter Tryd.func9, Tryd.ntmps9
  go_wp2_with fail
  refine K.mono ?_
  clear K
  rintro e w1 ⟨rfl, hE1⟩
  have HE1 := hid hE1
  clear hE1
  go_wp2_with fail
  go_ret
  exact ⟨rfl, HE.out.trans HE1.out⟩

end Go.Proofs.YtfjbhpjgidgjaaaDoor
