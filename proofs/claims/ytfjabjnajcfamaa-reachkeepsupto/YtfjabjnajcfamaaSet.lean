/-
  The program's reached, Set and Lost; no statement is proved here.
-/
import Derived.Test.YtfjabjnajcfamaaDepB
namespace Go.Proofs.Ytfjabjnajcfamaa
open Go.RowKit

/-- A net and roots that are sound. -/
structure Good (N : List (List Nat)) (R : List Nat) : Prop where
  net : Net N
  slim : Slim N
  len : N.length ≤ 65536
  roots : Nodes N R

theorem inN_nat {n : Nat} : ∀ {l : List Int}, inN n l = true → ∃ m : List Nat, l = ci m ∧ ∀ x ∈ m, x < n
  | [], _ => ⟨[], rfl, by simp⟩
  | x :: l, h => by
    simp only [inN, List.all_cons, Bool.and_eq_true, decide_eq_true_eq] at h
    obtain ⟨m, rfl, hm⟩ := inN_nat (n := n) (l := l) h.2
    refine ⟨x.toNat :: m, by simp [ci]; omega, fun y hy => ?_⟩
    simp only [List.mem_cons] at hy
    rcases hy with rfl | hy
    · omega
    · exact hm y hy
theorem inN_ci {n : Nat} {m : List Nat} (h : ∀ x ∈ m, x < n) : inN n (ci m) = true := by
  simp only [inN, ci, List.all_map, List.all_eq_true]
  intro x hx
  have := h x hx
  simp
  omega

theorem all_nat {n : Nat} : ∀ {M : List (List Int)}, (∀ l ∈ M, inN n l = true) → ∃ N : List (List Nat), M = cn N ∧ ∀ l ∈ N, ∀ x ∈ l, x < n
  | [], _ => ⟨[], rfl, by simp⟩
  | l :: M, h => by
    obtain ⟨m, rfl, hm⟩ := inN_nat (h l (by simp))
    obtain ⟨N, rfl, hN⟩ := all_nat (n := n) (M := M) (fun k hk => h k (by simp [hk]))
    refine ⟨m :: N, by simp [cn], fun k hk => ?_⟩
    simp only [List.mem_cons] at hk
    rcases hk with rfl | hk
    · exact hm
    · exact hN k hk

theorem err_good {M : List (List Int)} {R T : List Int} (h : errB M R T = 0) : ∃ N R' T', M = cn N ∧ R = ci R' ∧ T = ci T' ∧ Good N R' ∧ Nodes N T' := by
  unfold errB at h
  cases hs : soundB M
  · rw [hs] at h; simp at h
  · rw [hs] at h
    simp only [Bool.true_eq_false, if_false] at h
    cases h1 : inN M.length R
    · simp [h1] at h
    · cases h2 : inN M.length T
      · simp [h2] at h
      · simp only [soundB, Bool.and_eq_true, decide_eq_true_eq, List.all_eq_true] at hs
        obtain ⟨N, rfl, hN⟩ := all_nat (n := M.length) (M := M) (fun l hl => (hs.2 l hl).2)
        rw [cn_len] at h1 h2 hN
        obtain ⟨R', rfl, hR⟩ := inN_nat h1
        obtain ⟨T', rfl, hT⟩ := inN_nat h2
        refine ⟨N, R', T', rfl, rfl, rfl, ⟨hN, fun x => ?_, by have := hs.1; rwa [cn_len] at this, hR⟩, hT⟩
        by_cases hx : x < N.length
        · have h3 := (hs.2 (ci (nxt N x)) (List.mem_map.2 ⟨_, nxt_mem hx, rfl⟩)).1
          rwa [ci_len] at h3
        · simp [nxt, List.getD, List.getElem?_eq_none (Nat.le_of_not_lt hx)]
theorem good_err {N : List (List Nat)} {R T : List Nat} (h : Good N R) (hT : Nodes N T) : errB (cn N) (ci R) (ci T) = 0 := by
  have h1 : soundB (cn N) = true := by
    simp only [soundB, Bool.and_eq_true, decide_eq_true_eq, List.all_eq_true]
    refine ⟨by rw [cn_len]; exact h.len, fun l hl => ?_⟩
    obtain ⟨m, hm, rfl⟩ := List.mem_map.1 hl
    rw [cn_len]
    refine ⟨?_, inN_ci (h.net m hm)⟩
    obtain ⟨i, hi, rfl⟩ := List.mem_iff_getElem.1 hm
    have := h.slim i
    rw [ci_len]
    simpa [nxt, List.getD, hi] using this
  have h2 : inN (cn N).length (ci R) = true := by rw [cn_len]; exact inN_ci h.roots
  have h3 : inN (cn N).length (ci T) = true := by rw [cn_len]; exact inN_ci hT
  simp [errB, h1, h2, h3]

/-- What is reached, as bools. -/
structure Bl (N : List (List Nat)) (R : List Nat) (wo : Int) (L : List Bool) : Prop where
  len : L.length = N.length
  mem : ∀ x, x < N.length → (L.getD x false = true ↔ Rch N R wo x)

def RePost (w : World) (N : List (List Nat)) (R : List Nat) (wo : Int) (e : Ending) (w' : World) : Prop :=
  ∃ v L, e = .returned v ∧ Bl N R wo L ∧ w'.ownsRow w.heap.size 4 1 v N.length (L.map Value.bool) ∧ Ext [] w w'

/-- The bools of those of O. -/
def mark (n : Nat) (O : List Nat) : List Bool := (List.range n).map fun i => decide (i ∈ O)
theorem mark_len (n : Nat) (O : List Nat) : (mark n O).length = n := by simp [mark]
theorem mark_get (n : Nat) (O : List Nat) {x : Nat} (h : x < n) : (mark n O).getD x false = decide (x ∈ O) := by simp [mark, h]
theorem mark_nil (n : Nat) : mark n [] = List.replicate n false := by
  apply List.ext_getElem (by simp [mark])
  intro i h1 h2
  simp [mark]
theorem mark_snoc (n : Nat) (O : List Nat) {x : Nat} : mark n (O ++ [x]) = (mark n O).set x true := by
  apply List.ext_getElem (by simp [mark])
  intro i h1 h2
  simp only [mark, List.length_map, List.length_range] at h1
  rw [List.getElem_set]
  by_cases hx : x = i
  · subst hx; simp [mark]
  · simp [mark, hx]
    intro e; exact absurd e.symm hx

set_option maxHeartbeats 1000000 in
theorem reached_any (N : List (List Nat)) (R : List Nat) (wo : Int) (a : Option Addr) (n c : Nat) (ra : Option Addr) (rn rc : Nat) (w : World) (hN : Nt w a (cn N)) (hn : N.length = n) (hG : Good N R) (hR : Is w ra (ci R)) (hrn : R.length = rn) (hrb : rn ≤ 17592186044416) (hwo : wo = -1 ∨ 0 ≤ wo ∧ wo < n) :
    Calls Try.prog 29 #[.slice a n c, .slice ra rn rc, .int .i64 wo] w (RePost w N R wo) := by
  obtain ⟨i4, hi4, hz4, hs4, hy4⟩ := info_parts info4
  have hnb : n ≤ 65536 := by have := hG.len; omega
  have hr := run_make (P := Try.prog) w 25 4 i4 _ Try.underlying25 hi4 hz4 .i64 .i64 n n (by omega) (Int.le_refl _) (by rw [hy4]; omega) (by omega)
  rw [hs4] at hr
  simp only [Int.toNat_natCast] at hr
  have hm : madeCells (Value.bool false).cells (n * 1) = ((mark n []).map Value.bool).toArray := by
    apply Array.toList_inj.1
    rw [show (Value.bool false).cells = #[.bool false] from rfl, toList_madeCells_one, mark_nil]
    simp
  rw [hm] at hr
  have hE0 := Ext.alloc [] w (.cells ((mark n []).map Value.bool).toArray 4)
  have K := depth_any N R wo a n c ra rn rc _ (hN.keep0 hE0) hn hnb hG.net hG.slim (hR.keep0 hE0) hrn hrb hG.roots hwo
  have HO0 : Hid ((w.alloc (.cells ((mark n []).map Value.bool).toArray 4)).ownsRow w.heap.size 4 1 (.slice (some ⟨w.heap.size, 0, none⟩) n n) n ((mark n []).map Value.bool)) := by
    have := World.ownsRow_lit (base := w.heap.size) (e := 4) (size := 1) w ((mark n []).map Value.bool).toArray n (Nat.le_refl _) (by unfold maxLen; omega) (by simp [mark])
    exact this
  have HE0 := hid hE0
  have HNn := hid hn
  clear hm hi4 hz4 hs4 hy4 i4 hE0 hN hn hG hR hrn hwo
  go_enter Try.func29, Try.ntmps29
  go_wp2_with fail
  refine K.mono ?_
  clear K
  rintro e w1 ⟨v, O, rfl, hOrd, ho, hE1⟩
  have HOrd := hid hOrd
  have HOw := hid (own_keep0 HO0.out hE1)
  have HEw := hid (HE0.out.trans hE1)
  obtain ⟨av, cv, rfl, _⟩ := own_slice ho
  have HV := hid (own_vs ho)
  have hOl : O.length ≤ 65536 := by have := hOrd.len; have := HNn.out; omega
  have hdt := own_lt ho
  have HLt : Hid (∀ x ∈ O, x < n) := fun x hx => by have := hOrd.lt x hx; rw [HNn.out] at this; exact this
  have HAv : Hid (∀ ad, av = some ad → ad.block ≠ w.heap.size) := fun ad h => by
    subst h
    have h2 := hdt ad.block rfl
    simp at h2
    omega
  clear ho hE1 hOrd HO0 HE0 hdt hr
  go_wp2_with fail
  go_loopw [18] (fun q wr => ∃ k : Nat, q = .int .i64 k ∧ k ≤ O.length ∧ wr.ownsRow w.heap.size 4 1 (.slice (some ⟨w.heap.size, 0, none⟩) n n) n ((mark n (O.take k)).map Value.bool) ∧ Ext [w.heap.size] w1 wr) (fun q _ => (O.length - (intOf q)).toNat)
  case atStart => exact ⟨0, rfl, Nat.zero_le _, by simpa using HOw.out, Ext.refl _ _⟩
  case round =>
    clear HOw
    obtain ⟨k, rfl, hk, ho, hE⟩ := hrel
    have HOw := hid ho
    have HE := hid hE
    clear ho hE
    by_cases hlt : k < O.length
    · have hI : Is wr av (ci O) := Vs.keep HV.out HE.out (fun ad h => by simpa using HAv.out ad h)
      obtain ⟨b, o, rfl, hc⟩ := hI.cell (j := k) (by rw [ci_len]; exact hlt)
      rw [ci_get _ _ hlt] at hc
      have hx := HLt.out (O.getD k 0) (by simp [hlt])
      have HTk : Hid (O.take (k + 1) = O.take k ++ [O.getD k 0]) := by
        show _ = _
        rw [List.take_add_one]; simp [hlt]
      generalize O.getD k 0 = x at *
      have k1 : wr.cell? ⟨w.heap.size, x, none⟩ = some (.bool ((mark n (O.take k)).getD x false)) := by
        rw [HOw.out.cellAt x (by omega)]
        simp [mark_len, hx]
      have k2 : wr.frozen? ⟨w.heap.size, x, none⟩ = false := HOw.out.frozenAt x
      have HS := hid (HOw.out.stored x (.bool true)).1
      clear hI
      go_wp2_with fail
      go_roundw
      case rel =>
        refine ⟨k + 1, by go_num, by omega, ?_, HE.out.trans (Ext.setCell _ _ _ _ (by simp))⟩
        rw [HTk.out, mark_snoc, List.map_set]
        exact HS.out
      case measure => simp [intOf]; omega
    · obtain rfl : k = O.length := by omega
      go_wp2_with fail
      go_ret
      refine ⟨_, mark n O, rfl, ⟨by rw [mark_len, HNn.out], fun x hx => ?_⟩, ?_, HEw.out.on HE.out (by simp)⟩
      · rw [HNn.out] at hx
        rw [mark_get n O hx, decide_eq_true_eq]
        exact HOrd.out.mem x
      · have := HOw.out
        rw [List.take_length] at this
        rw [HNn.out]
        exact this

/-! ### Set -/

theorem set_bad (a : Option Addr) (n c : Nat) (ra : Option Addr) (rn rc : Nat) (M : List (List Int)) (R : List Int) (w : World) (hN : Nt w a M) (hn : M.length = n) (hR : Is w ra R) (hrn : R.length = rn) (hrb : rn ≤ 17592186044416) (h : errB M R [] ≠ 0) :
    Calls Try.prog 10 #[.slice a n c, .slice ra rn rc] w fun e w' => e = .returned (.tuple #[.slice none 0 0, .int .i64 (errB M R [])]) ∧ w' = w := by
  have K := fault_any a n c ra rn rc none 0 0 M R [] w hN hn hR hrn hrb (.inl rfl) rfl (by omega)
  have hne : (errB M R [] != 0) = true := by simpa using h
  generalize errB M R [] = er at *
  clear hN hn hR hrn h
  go_enter Try.func10, Try.ntmps10
  go_wp2_with (go_at_call 28; refine met K ?_)
  go_ret2
  exact ⟨rfl, rfl⟩

def SetPost (w : World) (N : List (List Nat)) (R : List Nat) (e : Ending) (w' : World) : Prop :=
  ∃ v L, e = .returned (.tuple #[v, .int .i64 0]) ∧ Bl N R (-1) L ∧ w'.ownsRow w.heap.size 4 1 v N.length (L.map Value.bool) ∧ Ext [] w w'

theorem set_ok (N : List (List Nat)) (R : List Nat) (a : Option Addr) (n c : Nat) (ra : Option Addr) (rn rc : Nat) (w : World) (hN : Nt w a (cn N)) (hn : N.length = n) (hG : Good N R) (hR : Is w ra (ci R)) (hrn : R.length = rn) (hrb : rn ≤ 17592186044416) :
    Calls Try.prog 10 #[.slice a n c, .slice ra rn rc] w (SetPost w N R) := by
  have K := fault_any a n c ra rn rc none 0 0 (cn N) (ci R) [] w hN (by rw [cn_len]; exact hn) hR (by rw [ci_len]; exact hrn) hrb (.inl rfl) rfl (by omega)
  have h0 := good_err hG (T := []) (by intro x hx; cases hx)
  rw [show ci [] = [] from rfl] at h0
  rw [h0] at K
  have K2 := reached_any N R (-1) a n c ra rn rc w hN hn hG hR hrn hrb (.inl rfl)
  clear hN hn hR hrn hG h0
  go_enter Try.func10, Try.ntmps10
  go_wp2_with (first | (go_at_call 28; refine met K ?_) | (go_at_call 29; refine K2.mono ?_; rintro e w1 ⟨v, L, rfl, hB, ho, hE⟩))
  obtain ⟨av, cv, rfl, _⟩ := own_slice ho
  go_ret2
  exact ⟨_, L, rfl, hB, ho, hE⟩

end Go.Proofs.Ytfjabjnajcfamaa
