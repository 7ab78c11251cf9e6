/-
  The document's own Load; Info; no statement is proved here.
-/
import Derived.Test.YtlajjcboahflbaaDoorGrown
import Derived.Test.YtlajjcboahflbaaDoorObject
namespace Go.Proofs.YtlajjcboahflbaaDoor
open Go.RowKit

theorem bad_any (a : Option Addr) (l c : Nat) (i n : Int) (w : World) (hl : l ≤ 1048576) (hi : I64 i) (E : Int) (hE : perr l i n = E) :
    Calls Tryd.prog 59 #[.slice a l c, .int .i64 i, .int .i64 n] w fun e w' => e = .returned (.int .i64 E) ∧ w' = w := by
  subst hE
  unfold perr
  by_cases h1 : n < 0
  · rw [if_pos h1]
    go_enter Tryd.func59, Tryd.ntmps59
    go_wp2
    go_ret
    exact ⟨rfl, rfl⟩
  · rw [if_neg h1]
    by_cases h2 : i < 0
    · rw [if_pos (.inl h2)]
      go_enter Tryd.func59, Tryd.ntmps59
      go_wp2
      go_ret
      exact ⟨rfl, rfl⟩
    · by_cases h3 : (l : Int) < i
      · rw [if_pos (by omega)]
        go_enter Tryd.func59, Tryd.ntmps59
        go_wp2
        go_ret
        exact ⟨rfl, rfl⟩
      · by_cases h4 : (l : Int) - i < n
        · rw [if_pos (by omega)]
          go_enter Tryd.func59, Tryd.ntmps59
          go_wp2
          go_ret
          exact ⟨rfl, rfl⟩
        · rw [if_neg (by omega)]
          go_enter Tryd.func59, Tryd.ntmps59
          go_wp2
          go_ret
          exact ⟨rfl, rfl⟩

theorem width_yes (n : Int) (w : World) (h : n = 1 ∨ n = 2 ∨ n = 4 ∨ n = 8) : Calls Tryd.prog 58 #[.int .i64 n] w fun e w' => e = .returned (.bool true) ∧ w' = w := by
  rcases h with rfl | rfl | rfl | rfl
  all_goals
    go_enter Tryd.func58, Tryd.ntmps58
    go_wp2
    go_ret
    exact ⟨rfl, rfl⟩

theorem width_no (n : Int) (w : World) (h : ¬ (n = 1 ∨ n = 2 ∨ n = 4 ∨ n = 8)) : Calls Tryd.prog 58 #[.int .i64 n] w fun e w' => e = .returned (.bool false) ∧ w' = w := by
  have h1 : (n == 1) = false := by simp; omega
  have h2 : (n == 2) = false := by simp; omega
  have h3 : (n == 4) = false := by simp; omega
  have h4 : (n == 8) = false := by simp; omega
  clear h
  go_enter Tryd.func58, Tryd.ntmps58
  go_wp2
  go_ret
  exact ⟨rfl, rfl⟩

/-! ### Load -/

theorem rload_err (a : Option Addr) (l c : Nat) (i n : Int) (w : World) (hl : l ≤ 1048576) (hi : I64 i) (E : Int) (hE : nerr l i n = E) (h0 : E ≠ 0) :
    Calls Tryd.prog 27 #[.slice a l c, .int .i64 i, .int .i64 n] w fun e w' => e = .returned (.tuple #[.int .u64 0, .int .i64 E]) ∧ w' = w := by
  unfold nerr at hE
  split at hE
  · rename_i h
    have K1 := width_yes n w h
    have K2 := bad_any a l c i n w hl hi E hE
    clear hE h
    go_enter Tryd.func27, Tryd.ntmps27
    go_wp2_with (first | (go_at_call 58; refine met K1 ?_) | (go_at_call 59; refine met K2 ?_))
    go_ret2
    exact ⟨rfl, rfl⟩
  · rename_i h
    have K1 := width_no n w h
    subst hE
    clear h
    go_enter Tryd.func27, Tryd.ntmps27
    go_wp2_with (go_at_call 58; refine met K1 ?_)
    go_ret2
    exact ⟨rfl, rfl⟩

theorem add_wrap (s b : Int) (k : Nat) (hk : k < 8) (h0 : 0 ≤ s) (h1 : s < 2 ^ (8 * k)) (h2 : 0 ≤ b) (h3 : b < 256) :
    IntKind.u64.wrap (s + IntKind.u64.wrap (b * 2 ^ (8 * k))) = s + b * 2 ^ (8 * k) := by
  have hp : (0 : Int) < 2 ^ (8 * k) := Int.pow_pos (by omega)
  have hle : (2 : Int) ^ (8 * k) ≤ 72057594037927936 := by
    have : k = 0 ∨ k = 1 ∨ k = 2 ∨ k = 3 ∨ k = 4 ∨ k = 5 ∨ k = 6 ∨ k = 7 := by omega
    rcases this with h | h | h | h | h | h | h | h <;> subst h <;> decide
  have m0 : 0 ≤ b * 2 ^ (8 * k) := Int.mul_nonneg h2 (by omega)
  have m1 : b * 2 ^ (8 * k) ≤ 255 * 2 ^ (8 * k) := Int.mul_le_mul_of_nonneg_right (by omega) (by omega)
  have hw : IntKind.u64.wrap (b * 2 ^ (8 * k)) = b * 2 ^ (8 * k) := by rw [IntKind.wrap_u64]; omega
  rw [hw, IntKind.wrap_u64]; omega

theorem rload_ok (r c : Nat) (L : List Int) (l : Nat) (i n : Nat) (w : World) (hR : Row w r L) (hB : Bts L) (hL : L.length = l) (hl : l ≤ 1048576) (h : i + n ≤ l) (hn : n = 1 ∨ n = 2 ∨ n = 4 ∨ n = 8) :
    Calls Tryd.prog 27 #[.slice (some ⟨r, 0, none⟩) l c, .int .i64 i, .int .i64 n] w fun e w' => e = .returned (.tuple #[.int .u64 (numAt L i n), .int .i64 0]) ∧ w' = w := by
  have K1 := width_yes n w (by omega)
  have K2 := bad_any (some ⟨r, 0, none⟩) l c i n w hl (by unfold I64; omega) 0 (perr_nat h)
  have hn8 : n ≤ 8 := by omega
  have HR : Hid (Row w r L) := hR
  have HB : Hid (Bts L) := hB
  have HL : Hid (L.length = l) := hL
  clear hn hR hB hL
  go_enter Tryd.func27, Tryd.ntmps27
  go_wp2_with (first | (go_at_call 58; refine met K1 ?_) | (go_at_call 59; refine met K2 ?_))
  clear K1 K2
  go_loop [10, 9] (fun q s => ∃ k : Nat, q = .int .i64 k ∧ k ≤ n ∧ s = .int .u64 (numAt L i k)) (fun q _ => (n - (intOf q)).toNat)
  case atStart => exact ⟨0, rfl, Nat.zero_le _, rfl⟩
  case round =>
    obtain ⟨k, rfl, hk, rfl⟩ := hrel
    by_cases hkn : k < n
    · have hce := HR.out.cell (i + k) (by rw [HL.out]; omega)
      have hbk := HB.out.getD (i + k)
      have hs := numAt_bd HB.out i k
      have HJ : Hid (IntKind.u64.wrap (numAt L i k + IntKind.u64.wrap (L.getD (i + k) 0 * 2 ^ (8 * k))) = numAt L i (k + 1)) := by
        rw [numAt_succ]; exact add_wrap _ _ k (by omega) hs.1 hs.2 hbk.1 hbk.2
      clear hs
      generalize hX : L.getD (i + k) 0 = B at *
      generalize numAt L i k = S at *
      clear hX
      go_wp2
      go_round
      case rel => exact ⟨k + 1, by go_num, by omega, by rw [HJ.out]⟩
      case measure => simp [intOf]; omega
    · obtain rfl : k = n := by omega
      go_wp2
      go_ret2
      exact ⟨rfl, rfl⟩


theorem dr_ext {w w' : World} (h : ∃ m, w' = w.drewN m) : Ext [] w w' := by
  obtain ⟨m, rfl⟩ := h
  exact Ext.drewN _ _ _

/-- Info's answer. -/
def infV (H : Hs) (a : Int) : Option (Nat × Nat) → Value
  | some (k, j) => if (adrAt H k j : Int) = a then .tuple #[obV a (slotAt H k j).1 (slotAt H k j).2, .int .i64 0] else .tuple #[obV 0 0 0, .int .i64 4]
  | none => .tuple #[obV 0 0 0, .int .i64 4]

theorem set34 {w : World} {g : Nat} {c : Array Value} (h : w.heap[g]? = some (.cells c 34 (0, 0))) (hc : c.size = 4) (a s t : Int) :
    ((((w.setCell ⟨g, 0, none⟩ (.int .i64 a)).setCell ⟨g, 1, none⟩ (.int .i64 s)).setCell ⟨g, 2, none⟩ (.int .i64 t)).setCell ⟨g, 3, none⟩ (.slice none 0 0)).heap[g]? = some (.cells #[.int .i64 a, .int .i64 s, .int .i64 t, .slice none 0 0] 34 (0, 0)) := by
  rw [heap_setCell_same _ g 3 _ _ _ (heap_setCell_same _ g 2 _ _ _ (heap_setCell_same _ g 1 _ _ _ (heap_setCell_same w g 0 _ _ _ h)))]
  congr 2
  apply Array.ext
  · simp [hc]
  · intro i h1 h2
    simp at h2
    have : i = 0 ∨ i = 1 ∨ i = 2 ∨ i = 3 := by omega
    rcases this with rfl | rfl | rfl | rfl <;> simp [hc]
theorem ext34 {w : World} {g : Nat} (a s t : Int) : Ext [g] w ((((w.setCell ⟨g, 0, none⟩ (.int .i64 a)).setCell ⟨g, 1, none⟩ (.int .i64 s)).setCell ⟨g, 2, none⟩ (.int .i64 t)).setCell ⟨g, 3, none⟩ (.slice none 0 0)) :=
  (((Ext.setCell _ _ _ _ (by simp)).trans (Ext.setCell _ _ _ _ (by simp))).trans (Ext.setCell _ _ _ _ (by simp))).trans (Ext.setCell _ _ _ _ (by simp))

section
variable {p ox : Nat} {T : TypeId} {cs : Array Value} {F : Nat → Prop} {H : Hs} {ag og : Nat} {V : Value} {sb : Nat → Nat × Nat} {O : List (Option Nat)}

set_option maxRecDepth 100000 in
set_option maxHeartbeats 4000000 in
theorem info_any (a : Int) (w : World) (hH : Hm w p ox T cs F H ag og V sb O) : Calls Tryd.prog 12 #[.pointer (some ⟨p, ox, none⟩), .int .i64 a] w (SayPost w (infV H a (fnd H a))) := by
  obtain ⟨wa, hwa⟩ : ∃ wa, wa = w.alloc (.cells #[.int .i64 0, .int .i64 0, .int .i64 0, .slice none 0 0] 34) := ⟨_, rfl⟩
  have hE0 : Ext [] w wa := by rw [hwa]; exact Ext.alloc _ _ _
  have hb0 : wa.heap[w.heap.size]? = some (.cells #[.int .i64 0, .int .i64 0, .int .i64 0, .slice none 0 0] 34 (0, 0)) := by rw [hwa]; exact heap_alloc_new _ _
  have hHa := hH.keep0 hE0
  have K := find_any a wa hHa
  -- what is stored into the answer
  have HS : Hid (∀ u, Ext [] wa u → u.frozen? ⟨w.heap.size, 0, none⟩ = false ∧ u.frozen? ⟨w.heap.size, 1, none⟩ = false ∧ u.frozen? ⟨w.heap.size, 2, none⟩ = false ∧ u.frozen? ⟨w.heap.size, 3, none⟩ = false ∧
      u.cell? ⟨w.heap.size, 0, none⟩ = some (.int .i64 0) ∧ u.cell? ⟨w.heap.size, 1, none⟩ = some (.int .i64 0) ∧ u.cell? ⟨w.heap.size, 2, none⟩ = some (.int .i64 0) ∧ u.cell? ⟨w.heap.size, 3, none⟩ = some (.slice none 0 0)) := fun u hu => by
    have hb := hu.keep hb0 (by simp)
    refine ⟨frozen_of_row _ _ _ _ _ hb, frozen_of_row _ _ _ _ _ hb, frozen_of_row _ _ _ _ _ hb, frozen_of_row _ _ _ _ _ hb, ?_, ?_, ?_, ?_⟩ <;> (rw [cell_of_row _ _ _ _ _ _ hb]; rfl)
  have HF : Hid (∀ u x s t er, Ext [] wa u → ∀ tmps : Array Value, tmps.getD 4 undef = .pointer (some ⟨w.heap.size, 0, none⟩) → tmps.getD 5 undef = .int .i64 er →
      (results Tryd.f12 tmps).run Tryd.prog ((((u.setCell ⟨w.heap.size, 0, none⟩ (.int .i64 x)).setCell ⟨w.heap.size, 1, none⟩ (.int .i64 s)).setCell ⟨w.heap.size, 2, none⟩ (.int .i64 t)).setCell ⟨w.heap.size, 3, none⟩ (.slice none 0 0)) = .ok (.tuple #[obV x s t, .int .i64 er]) ((((u.setCell ⟨w.heap.size, 0, none⟩ (.int .i64 x)).setCell ⟨w.heap.size, 1, none⟩ (.int .i64 s)).setCell ⟨w.heap.size, 2, none⟩ (.int .i64 t)).setCell ⟨w.heap.size, 3, none⟩ (.slice none 0 0)) ∧
      Ext [] w ((((u.setCell ⟨w.heap.size, 0, none⟩ (.int .i64 x)).setCell ⟨w.heap.size, 1, none⟩ (.int .i64 s)).setCell ⟨w.heap.size, 2, none⟩ (.int .i64 t)).setCell ⟨w.heap.size, 3, none⟩ (.slice none 0 0))) := fun u x s t er hu tmps h4 h5 => by
    have := results_cell_tmp2 (P := Tryd.prog) (fn := Tryd.f12) (p := 4) (q := 5) (ty := 34) rfl tmps _ ⟨w.heap.size, 0, none⟩ _ h4 (load34 (set34 (hu.keep hb0 (by simp)) rfl x s t))
    rw [h5] at this
    exact ⟨this, (hE0.trans hu).on (ext34 x s t) (by simp)⟩
  cases hf : fnd H a with
  | none =>
    rw [hf] at K
    simp only [fdV] at K
    clear hH hHa hf hb0 hE0
    go_enter Tryd.func12, Tryd.ntmps12
    go_upto_region 1 with fail
    rw [← hwa]
    clear hwa
    go_wp2_with (first | (go_at_call 32; refine K.mono ?_; clear K; rintro e w1 ⟨rfl, hm⟩; have hE1 := hid (dr_ext hm); clear hm; have y := HS.out w1 hE1.out) | fail "no arm")
    refine bodyPost_ret (HF.out w1 0 0 0 4 hE1.out _ ?_ ?_).1 rfl ⟨rfl, (HF.out w1 0 0 0 4 hE1.out #[undef, undef, undef, undef, .pointer (some ⟨w.heap.size, 0, none⟩), .int .i64 4] rfl rfl).2⟩
    · rfl
    · rfl
  | some q =>
    obtain ⟨k, j⟩ := q
    rw [hf] at K
    simp only [fdV] at K
    obtain ⟨hs, h1, h2⟩ := hHa.ok.hit hf
    have KA := hHa.addr_dr hs
    by_cases hc : (adrAt H k j : Int) = a
    · have hV : infV H a (some (k, j)) = .tuple #[obV a (slotAt H k j).1 (slotAt H k j).2, .int .i64 0] := if_pos hc
      rw [hV]
      have KB : Hid (∀ u, Ext [] wa u → Calls Tryd.prog 34 #[.pointer (some ⟨(sb (spAt H k).st).1, 0, none⟩), .int .i64 j] u (SayPost u (.agg #[.int .i64 a, .int .i64 (slotAt H k j).1, .int .i64 (slotAt H k j).2, .slice none 0 0]))) := fun u hu => by
        have := object_any _ _ _ _ _ _ j _ u ((hHa.spans _ hs.mem).keep hu (by simp) (by simp)) (by have := hs.st; have := hs.P1; omega) (by have := hs.ok.rm2; omega) hs.jl (hs.ok.len2 (by have := hs.st; have := hs.P1; omega))
        rw [← hs.ad, hc] at this
        exact this
      clear hV hH hHa hf hb0 hE0 hs h1 h2
      subst hc
      generalize (sb (spAt H k).st).1 = s at *
      generalize adrAt H k j = ad at *
      generalize (slotAt H k j).1 = x0 at *
      generalize (slotAt H k j).2 = x1 at *
      go_enter Tryd.func12, Tryd.ntmps12
      go_upto_region 1 with fail
      rw [← hwa]
      clear hwa
      go_wp2_with (first | (go_at_call 32; refine K.mono ?_; clear K; rintro e w1 ⟨rfl, hm⟩; have hE1 := hid (dr_ext hm); clear hm; have KA1 := KA w1 hE1.out 0) | (go_at_call 33; refine KA1.mono ?_; clear KA1; rintro e w2 ⟨rfl, hm⟩; have hE2 := hid (hE1.out.trans ((Ext.drewN [] w1 0).trans (dr_ext hm))); clear hm; have KB2 := KB.out w2 hE2.out) | (go_at_call 34; refine KB2.mono ?_; clear KB2; rintro e w3 ⟨rfl, hm⟩; have hE3 := hid (hE2.out.trans hm); clear hm; have y := HS.out w3 hE3.out) | fail "no arm")
      refine bodyPost_ret (HF.out w3 ad x0 x1 0 hE3.out _ ?_ ?_).1 rfl ⟨rfl, (HF.out w3 ad x0 x1 0 hE3.out #[undef, undef, undef, undef, .pointer (some ⟨w.heap.size, 0, none⟩), .int .i64 0] rfl rfl).2⟩
      · rfl
      · rfl
    · have hV : infV H a (some (k, j)) = .tuple #[obV 0 0 0, .int .i64 4] := if_neg hc
      rw [hV]
      have hb : ((adrAt H k j : Int) == a) = false := by simpa using hc
      clear hV hH hHa hf hb0 hE0 hs h1 h2 hc
      generalize (sb (spAt H k).st).1 = s at *
      generalize adrAt H k j = ad at *
      go_enter Tryd.func12, Tryd.ntmps12
      go_upto_region 1 with fail
      rw [← hwa]
      clear hwa
      go_wp2_with (first | (go_at_call 32; refine K.mono ?_; clear K; rintro e w1 ⟨rfl, hm⟩; have hE1 := hid (dr_ext hm); clear hm; have KA1 := KA w1 hE1.out 0) | (go_at_call 33; refine KA1.mono ?_; clear KA1; rintro e w2 ⟨rfl, hm⟩; have hE2 := hid (hE1.out.trans ((Ext.drewN [] w1 0).trans (dr_ext hm))); clear hm; have y := HS.out w2 hE2.out) | fail "no arm")
      refine bodyPost_ret (HF.out w2 0 0 0 4 hE2.out _ ?_ ?_).1 rfl ⟨rfl, (HF.out w2 0 0 0 4 hE2.out #[undef, undef, undef, undef, .pointer (some ⟨w.heap.size, 0, none⟩), .int .i64 4] rfl rfl).2⟩
      · rfl
      · rfl

end

end Go.Proofs.YtlajjcboahflbaaDoor
