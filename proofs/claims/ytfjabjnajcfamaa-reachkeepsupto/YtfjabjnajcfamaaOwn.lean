/-
  The statements' own helpers: own, copied, awake, in; no statement is proved here.
-/
import Derived.Test.YtfjabjnajcfamaaSet
namespace Go.Proofs.Ytfjabjnajcfamaa
open Go.RowKit

def OwPost (w : World) (xs : List Int) (e : Ending) (w' : World) : Prop := ∃ a c, e = .returned (.slice a xs.length c) ∧ xs.length ≤ c ∧ w'.ownsRow w.heap.size 3 1 (.slice a xs.length c) xs.length (xs.map (Value.int .i64)) ∧ Ext [] w w'

theorem ints_one (xs : List Int) : ∀ u ∈ xs.map (Value.int .i64), u.oneCell' = true := fun u hu => by obtain ⟨x, _, rfl⟩ := List.mem_map.1 hu; rfl

theorem own_any (a : Option Addr) (n c : Nat) (xs : List Int) (w : World) (hI : Is w a xs) (hn : xs.length = n) (hb : n ≤ 17592186044416) : Calls Try.prog 12 #[.slice a n c] w (OwPost w xs) := by
  have hE0 := Ext.alloc [] w (.cells #[] 3)
  have hown : (w.alloc (.cells #[] 3)).ownsRow w.heap.size 3 1 (.slice (some ⟨w.heap.size, 0, none⟩) 0 0) 0 [] := World.ownsRow_made w #[] 0 (Nat.le_refl _) (Nat.zero_le _) rfl
  obtain ⟨v, w', hr, ho, hE, _⟩ := app_own w _ hE0 23 23 3 _ 8 Try.underlying23 info3 rfl (by omega) _ 0 [] hown a n c (xs.map (Value.int .i64)) (by simpa using hn) (Vs.keep0 hI hE0) (ints_one xs) (by omega)
  rw [Nat.zero_add, List.nil_append] at ho
  obtain ⟨a', c', rfl, hc⟩ := own_slice ho
  have HF : Hid (OwPost w xs (.returned (.slice a' n c')) w') := by subst hn; exact ⟨a', c', rfl, hc, ho, hE⟩
  clear hE0 hown hI hn ho hE
  go_enter Try.func12, Try.ntmps12
  go_wp2_with (at_builtin; refine wpList_append_run rfl _ _ 23 rfl _ _ _ rfl rfl hr ?_)
  go_ret
  exact HF.out

/-- Lists of one's own, as slices. -/
def rowsN (M : List (List Int)) (G : Nat → Option Addr × Nat) : Nat → List Value
  | 0 => []
  | k + 1 => rowsN M G k ++ [.slice (G k).1 (lsAt M k).length (G k).2]
theorem rowsN_len (M : List (List Int)) (G : Nat → Option Addr × Nat) : ∀ k, (rowsN M G k).length = k
  | 0 => rfl
  | k + 1 => by rw [rowsN, List.length_append, rowsN_len M G k]; rfl
theorem rowsN_cong {M : List (List Int)} {G H : Nat → Option Addr × Nat} : ∀ k, (∀ i, i < k → G i = H i) → rowsN M G k = rowsN M H k
  | 0, _ => rfl
  | k + 1, h => by rw [rowsN, rowsN, rowsN_cong k (fun i hi => h i (by omega)), h k (by omega)]
theorem rowsN_get (M : List (List Int)) (G : Nat → Option Addr × Nat) : ∀ (n i : Nat), i < n → (rowsN M G n)[i]? = some (.slice (G i).1 (lsAt M i).length (G i).2)
  | 0, _, h => by omega
  | n + 1, i, h => by
    rw [rowsN]
    by_cases e : i = n
    · subst e
      rw [List.getElem?_append_right (by rw [rowsN_len]; exact Nat.le_refl _), rowsN_len]
      simp
    · rw [List.getElem?_append_left (by rw [rowsN_len]; omega)]
      exact rowsN_get M G n i (by omega)

/-- Each list in a row of its own. -/
def Fs (w0 w : World) (M : List (List Int)) (G : Nat → Option Addr × Nat) (k : Nat) : Prop := ∀ i, i < k → w.ownsRow w0.heap.size 3 1 (.slice (G i).1 (lsAt M i).length (G i).2) (lsAt M i).length ((lsAt M i).map (Value.int .i64))

theorem nt_of {w0 w : World} {a : Option Addr} {n c : Nat} {M : List (List Int)} {G : Nat → Option Addr × Nat} (ho : w.ownsRow w0.heap.size 23 1 (.slice a n c) n (rowsN M G n)) (hf : Fs w0 w M G n) (hn : M.length = n) (hl : n ≤ 5864062014805) (hb : ∀ i, i < n → (lsAt M i).length ≤ 17592186044416) : Nt w a M := by
  subst hn
  refine ⟨?_, hl⟩
  rcases ho.2 with ⟨h1, h2⟩ | ⟨g, cap, cur, h0, h1, h2, h3, h4, h5, h6⟩
  · left; exact List.length_eq_zero_iff.1 h2
  · right
    cases h0
    refine ⟨g, 0, rfl, fun i hi => ⟨(G i).1, (G i).2, ?_, own_vs (hf i hi), ?_, hb i hi⟩⟩
    · rw [Nat.zero_add, World.ownsRow.cellAt ho i (by omega), rowsN_get M G _ i hi]
    · obtain ⟨a', c', e, h⟩ := own_slice (hf i hi)
      cases e
      exact h

def CpPost (w : World) (M : List (List Int)) (e : Ending) (w' : World) : Prop := ∃ a c, e = .returned (.slice a M.length c) ∧ M.length ≤ c ∧ Nt w' a M ∧ Ext [] w w'

set_option maxRecDepth 100000 in
set_option maxHeartbeats 2000000 in
theorem copied_any (a : Option Addr) (n c : Nat) (M : List (List Int)) (w : World) (hN : Nt w a M) (hn : M.length = n) : Calls Try.prog 11 #[.slice a n c] w (CpPost w M) := by
  have HN := hid hN
  have HM := hid hn
  have hl := hN.len
  rw [hn] at hl
  have HFL : Hid (∀ i, i < n → (lsAt M i).length ≤ 17592186044416) := fun i hi => by
    obtain ⟨b, o, _, h2⟩ := hN.addr (by omega)
    obtain ⟨fa, fc, _, _, _, h3⟩ := h2 i (by omega)
    exact h3
  clear hN hn
  go_enter Try.func11, Try.ntmps11
  go_wp2_with fail
  go_loopw [3, 4] (fun lv u wr => ∃ k : Nat, ∃ G, u = .int .i64 k ∧ k ≤ n ∧ wr.ownsRow w.heap.size 23 1 lv k (rowsN M G k) ∧ Fs w wr M G k ∧ Ext [] w wr) (fun _ u _ => (n - (intOf u)).toNat)
  case atStart => exact ⟨0, fun _ => (none, 0), rfl, Nat.zero_le _, own_nil _ _ _ _, fun i hi => by omega, Ext.refl _ _⟩
  case round =>
    obtain ⟨k, G, rfl, hkn, hO, hFs, hE⟩ := hrel
    have HO := hid hO
    have HFs := hid hFs
    have HE := hid hE
    clear hO hFs hE
    by_cases hlt : k < n
    · obtain ⟨b, o, rfl, hta⟩ := (HN.out.keep0 HE.out).addr (by rw [HM.out]; omega)
      obtain ⟨fa, fc, c0, hI, _, hfl⟩ := hta k (by rw [HM.out]; omega)
      clear hta
      have hbl : b < wr.heap.size := block_lt_of_cell c0
      have hE1 := Ext.alloc [] wr (.cells #[] 3)
      have hown : (wr.alloc (.cells #[] 3)).ownsRow w.heap.size 3 1 (.slice (some ⟨wr.heap.size, 0, none⟩) 0 0) 0 [] := World.ownsRow_made wr #[] 0 HE.out.size (Nat.zero_le _) rfl
      obtain ⟨v1, w2, hr1, hO1, hE2, hX1⟩ := app_own w _ (HE.out.trans hE1) 23 23 3 _ 8 Try.underlying23 info3 rfl (by omega) _ 0 [] hown fa (lsAt M k).length fc ((lsAt M k).map (Value.int .i64)) (by simp) (Vs.keep0 hI hE1) (ints_one _) (by omega)
      rw [Nat.zero_add, List.nil_append] at hO1
      simp only [Value.ownBlock, Option.toList_some] at hX1
      obtain ⟨a1, q1, rfl, _⟩ := own_slice hO1
      have hE3 := Ext.alloc [] w2 (.cells #[.slice a1 (lsAt M k).length q1] 23)
      have hV3 := vs_new w2 23 [.slice a1 (lsAt M k).length q1]
      have holt := own_lt HO.out
      have hX0 : Ext [wr.heap.size] wr w2 := (hE1.mono (by simp)).trans hX1
      have hOw := own_keep0 (own_keep HO.out hX0 (by simp; intro h; have := holt _ h; omega)) hE3
      obtain ⟨v2, w4, hr2, hO2, hE4, hX4⟩ := app_own w _ (hE2.trans hE3) 22 22 23 _ 24 Try.underlying22 info23 rfl (by omega) _ k _ hOw (some ⟨w2.heap.size, 0, none⟩) 1 1 _ rfl hV3 (by simp [Value.oneCell']) (by omega)
      have HF4 : Hid (Fs w w4 M (fun i => if i = k then (a1, q1) else G i) (k + 1)) := by
        intro i hi
        by_cases e : i = k
        · subst e
          simp only [if_true]
          have h3 := own_keep0 hO1 hE3
          exact own_keep h3 hX4 (own_apart h3 hOw (by decide))
        · simp only [e, if_false]
          have hf := HFs.out i (by omega)
          have hlt2 := own_lt hf
          have h3 := own_keep0 (own_keep hf hX0 (by simp; intro h; have := hlt2 _ h; omega)) hE3
          exact own_keep h3 hX4 (own_apart h3 hOw (by decide))
      have HRW : Hid (rowsN M G k ++ [.slice a1 (lsAt M k).length q1] = rowsN M (fun i => if i = k then (a1, q1) else G i) (k + 1)) := by
        show _ = _
        rw [rowsN, rowsN_cong k (H := fun i => if i = k then (a1, q1) else G i) (fun i hi => by simp [Nat.ne_of_lt hi])]
        simp
      have HO2 := hid hO2
      have HE4 := hid hE4
      clear hE1 hown hO1 hE2 hX1 hE3 hV3 holt hX0 hOw hO2 hE4 hX4 hI
      go_wp2_with (first | (at_builtin; refine wpList_append_run rfl _ _ 23 rfl _ _ _ rfl rfl hr1 ?_) | (at_builtin; refine wpList_append_run rfl _ _ 22 rfl _ _ _ rfl rfl hr2 ?_))
      go_roundw
      case rel => exact ⟨k + 1, fun i => if i = k then (a1, q1) else G i, by go_num, by omega, by rw [← HRW.out]; exact HO2.out, HF4.out, HE4.out⟩
      case measure => simp [intOf]; omega
    · obtain rfl : k = n := by omega
      obtain ⟨a', c', rfl, hac⟩ := own_slice HO.out
      go_wp2_with fail
      go_ret
      have hnt := nt_of HO.out HFs.out HM.out hl HFL.out
      have hm := HM.out
      subst hm
      exact ⟨a', c', rfl, hac, hnt, HE.out⟩

/-! ### awake -/

set_option maxHeartbeats 1000000 in
theorem awake_any (w : World) : Calls Try.prog 9 #[] w (SayPost w (.bool true)) := by
  have hE1 := Ext.alloc [] w (.cells #[.int .i64 0] 3)
  have hE2 := Ext.alloc [] (w.alloc (.cells #[.int .i64 0] 3)) (.cells #[.slice (some ⟨w.heap.size, 0, none⟩) 1 1] 23)
  have hE3 := Ext.alloc [] ((w.alloc (.cells #[.int .i64 0] 3)).alloc (.cells #[.slice (some ⟨w.heap.size, 0, none⟩) 1 1] 23)) (.cells #[.int .i64 0] 3)
  have c1 : (w.alloc (.cells #[.int .i64 0] 3)).cell? ⟨w.heap.size, 0, none⟩ = some (.int .i64 0) := by rw [cell_of_row _ _ _ _ _ _ (heap_alloc_new _ _)]; rfl
  have c2 : ((w.alloc (.cells #[.int .i64 0] 3)).alloc (.cells #[.slice (some ⟨w.heap.size, 0, none⟩) 1 1] 23)).cell? ⟨w.heap.size + 1, 0, none⟩ = some (.slice (some ⟨w.heap.size, 0, none⟩) 1 1) := by
    rw [cell_of_row _ _ _ _ _ _ (show _ = _ from by have := heap_alloc_new (w.alloc (.cells #[.int .i64 0] 3)) (.cells #[.slice (some ⟨w.heap.size, 0, none⟩) 1 1] 23); simpa using this)]; rfl
  have hV3 := vs_new ((w.alloc (.cells #[.int .i64 0] 3)).alloc (.cells #[.slice (some ⟨w.heap.size, 0, none⟩) 1 1] 23)) 3 [.int .i64 0]
  have hI0 : Is (((w.alloc (.cells #[.int .i64 0] 3)).alloc (.cells #[.slice (some ⟨w.heap.size, 0, none⟩) 1 1] 23)).alloc (.cells #[.int .i64 0] 3)) (some ⟨w.heap.size, 0, none⟩) (ci [0]) := by
    right
    refine ⟨_, 0, rfl, fun j hj => ?_⟩
    obtain rfl : j = 0 := by simp [ci] at hj; exact hj
    exact hE3.cell (hE2.cell c1 (by simp)) (by simp)
  have hN : Nt (((w.alloc (.cells #[.int .i64 0] 3)).alloc (.cells #[.slice (some ⟨w.heap.size, 0, none⟩) 1 1] 23)).alloc (.cells #[.int .i64 0] 3)) (some ⟨w.heap.size + 1, 0, none⟩) (cn [[0]]) := by
    refine ⟨.inr ⟨_, 0, rfl, fun i hi => ?_⟩, by simp [cn]⟩
    obtain rfl : i = 0 := by simp [cn] at hi; exact hi
    exact ⟨_, 1, hE3.cell c2 (by simp), hI0, by simp [lsAt, cn, ci], by simp [lsAt, cn, ci]⟩
  have hG : Good [[0]] [0] := by
    refine ⟨by intro l hl x hx; simp at hl; subst hl; simp at hx; simp [hx], fun x => ?_, by simp, by intro x hx; simp at hx; simp [hx]⟩
    by_cases h : x = 0
    · subst h; simp [nxt]
    · simp [nxt, List.getD, List.getElem?_eq_none (show [[0]].length ≤ x by simp; omega)]
  have K := set_ok [[0]] [0] (some ⟨w.heap.size + 1, 0, none⟩) 1 1 (some ⟨w.heap.size + 2, 0, none⟩) 1 1 _ hN rfl hG (by simpa [Is, ci] using hV3) rfl (by omega)
  have HE := hid ((hE1.trans hE2).trans hE3)
  clear hE1 hE2 hE3 c1 c2 hV3 hI0 hN hG
  go_enter Try.func9, Try.ntmps9
  go_wp2_with fail
  refine K.mono ?_
  clear K
  rintro e w1 ⟨v, L, rfl, hB, ho, hE⟩
  have HE1 := hid (HE.out.trans hE)
  have hl := hB.len
  have hm := (hB.mem 0 (by simp)).2 (.root (by simp) (by omega))
  obtain ⟨av, cv, rfl, _⟩ := own_slice ho
  simp only [List.length_singleton] at hl ho
  obtain ⟨b, o, rfl, hc⟩ := Os.cell (show Os w1 av L from own_vs ho) (j := 0) (by omega)
  rw [hm] at hc
  simp only [Nat.add_zero] at hc
  clear hE hB ho hm hl HE
  go_wp2_with fail
  go_ret
  exact ⟨rfl, HE1.out⟩

/-! ### in -/

theorem in_any (a : Option Addr) (n c : Nat) (l : List Int) (x : Int) (w : World) (hI : Is w a l) (hn : l.length = n) (hb : n ≤ 17592186044416) : Calls Try.prog 24 #[.slice a n c, .int .i64 x] w fun e w' => e = .returned (.bool (decide (x ∈ l))) ∧ w' = w := by
  have HI := hid hI
  have HM := hid hn
  clear hI hn
  go_enter Try.func24, Try.ntmps24
  go_wp2
  go_loop [5] (fun q => ∃ k : Nat, q = .int .i64 k ∧ k ≤ n ∧ x ∉ l.take k) (fun q => (n - (intOf q)).toNat)
  case atStart => exact ⟨0, rfl, Nat.zero_le _, by simp⟩
  case round =>
    obtain ⟨k, rfl, hk, hin⟩ := hrel
    have HN := hid hin
    clear hin
    by_cases hlt : k < n
    · obtain ⟨b, o, rfl, hc⟩ := HI.out.cell (j := k) (by rw [HM.out]; exact hlt)
      have HT : Hid (l.take (k + 1) = l.take k ++ [l.getD k 0]) := by
        show _ = _
        rw [List.take_add_one]; simp [show k < l.length by rw [HM.out]; exact hlt]
      have HMem : Hid (l.getD k 0 ∈ l) := by
        show _ ∈ _
        simp [show k < l.length by rw [HM.out]; exact hlt]
      generalize l.getD k 0 = y at *
      by_cases h1 : y = x
      · have hb1 : (y == x) = true := by simp [h1]
        have HX : Hid (x ∈ l) := by show _ ∈ _; rw [← h1]; exact HMem.out
        clear h1
        go_wp2
        go_ret
        refine ⟨?_, rfl⟩
        have : decide (x ∈ l) = true := by simpa using HX.out
        rw [this]
        rfl
      · have hb1 : (y == x) = false := by simp [h1]
        go_wp2
        go_round
        case rel =>
          refine ⟨k + 1, by go_num, by omega, ?_⟩
          rw [HT.out, List.mem_append, List.mem_singleton]
          rintro (q | q)
          · exact HN.out q
          · exact h1 q.symm
        case measure => simp [intOf]; omega
    · obtain rfl : k = n := by omega
      go_wp2
      go_ret
      refine ⟨?_, rfl⟩
      have h := HN.out
      rw [← HM.out, List.take_length] at h
      have : decide (x ∈ l) = false := by simpa using h
      rw [this]
      rfl

end Go.Proofs.Ytfjabjnajcfamaa
