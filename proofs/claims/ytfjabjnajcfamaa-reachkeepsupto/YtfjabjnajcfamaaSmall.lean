/-
  The program's nodes, sound and fault; no statement is proved here.
-/
import Derived.Test.YtfjabjnajcfamaaBase
namespace Go.Proofs.Ytfjabjnajcfamaa
open Go.RowKit

/-- Are all numbers of a list below n, and not below 0? -/
def inN (n : Nat) (l : List Int) : Bool := l.all fun x => decide (0 ≤ x) && decide (x < n)

theorem inN_take {n : Nat} {l : List Int} {k : Nat} (hk : k < l.length) : inN n (l.take (k + 1)) = (inN n (l.take k) && (decide (0 ≤ l.getD k 0) && decide (l.getD k 0 < n))) := by
  have : l.take (k + 1) = l.take k ++ [l.getD k 0] := by rw [List.take_add_one]; simp [hk]
  rw [this]
  simp [inN]
theorem inN_false {n : Nat} {l : List Int} {k : Nat} (hk : k < l.length) (h : l.getD k 0 < 0 ∨ (n : Int) ≤ l.getD k 0) : inN n l = false := by
  simp only [inN, List.all_eq_false]
  refine ⟨l.getD k 0, by simp [hk], ?_⟩
  generalize l.getD k 0 = x at *
  simp
  omega

theorem nodes_any (a : Option Addr) (n c : Nat) (fa : Option Addr) (m fc : Nat) (l : List Int) (w : World) (hI : Is w fa l) (hm : l.length = m) (hb : m ≤ 17592186044416) (_hn : n ≤ 5864062014805) :
    Calls Try.prog 42 #[.slice a n c, .slice fa m fc] w fun e w' => e = .returned (.bool (inN n l)) ∧ w' = w := by
  have HI := hid hI
  have HM := hid hm
  clear hI hm
  go_enter Try.func42, Try.ntmps42
  go_wp2
  go_loop [9] (fun q => ∃ k : Nat, q = .int .i64 k ∧ k ≤ m ∧ inN n (l.take k) = true) (fun q => (m - (intOf q)).toNat)
  case atStart => exact ⟨0, rfl, Nat.zero_le _, by simp [inN]⟩
  case round =>
    obtain ⟨k, rfl, hk, hin⟩ := hrel
    have HN := hid hin
    clear hin
    by_cases hlt : k < m
    · obtain ⟨b, o, rfl, hc⟩ := HI.out.cell (j := k) (by rw [HM.out]; exact hlt)
      have HT := hid (inN_take (n := n) (l := l) (k := k) (by rw [HM.out]; exact hlt))
      have HF := hid (fun h => inN_false (n := n) (l := l) (k := k) (by rw [HM.out]; exact hlt) h)
      generalize l.getD k 0 = x at *
      by_cases h1 : x < 0
      · go_wp2
        go_ret
        exact ⟨by rw [HF.out (.inl h1)]; rfl, rfl⟩
      · by_cases h2 : (n : Int) ≤ x
        · go_wp2
          go_ret
          exact ⟨by rw [HF.out (.inr h2)]; rfl, rfl⟩
        · go_wp2
          go_round
          case rel => exact ⟨k + 1, by go_num, by omega, by rw [HT.out, HN.out]; simp; omega⟩
          case measure => simp [intOf]; omega
    · obtain rfl : k = m := by omega
      go_wp2
      go_ret
      refine ⟨?_, rfl⟩
      have h := HN.out
      rw [← HM.out, List.take_length] at h
      rw [h]
      rfl

/-- Is a net sound? -/
def soundB (M : List (List Int)) : Bool := decide (M.length ≤ 65536) && M.all fun l => decide (l.length ≤ 8192) && inN M.length l
def snd1 (M : List (List Int)) (l : List Int) : Bool := decide (l.length ≤ 8192) && inN M.length l

theorem snd_take {M : List (List Int)} {k : Nat} (hk : k < M.length) : (M.take (k + 1)).all (snd1 M) = ((M.take k).all (snd1 M) && snd1 M (lsAt M k)) := by
  have : M.take (k + 1) = M.take k ++ [lsAt M k] := by rw [List.take_add_one]; simp [hk, lsAt]
  rw [this]
  simp
theorem snd_false {M : List (List Int)} {k : Nat} (hk : k < M.length) (h : snd1 M (lsAt M k) = false) : soundB M = false := by
  simp only [soundB, Bool.and_eq_false_iff]
  right
  rw [List.all_eq_false]
  exact ⟨lsAt M k, by simp [lsAt, hk], by simpa [snd1] using h⟩

set_option maxHeartbeats 1000000 in
theorem sound_any (a : Option Addr) (n c : Nat) (M : List (List Int)) (w : World) (hN : Nt w a M) (hn : M.length = n) :
    Calls Try.prog 41 #[.slice a n c] w fun e w' => e = .returned (.bool (soundB M)) ∧ w' = w := by
  have hl := hN.len
  rw [hn] at hl
  have HN := hid hN
  have HM := hid hn
  clear hN hn
  by_cases hbig : 65536 < n
  · go_enter Try.func41, Try.ntmps41
    go_wp2
    go_ret
    refine ⟨?_, rfl⟩
    have : ¬ M.length ≤ 65536 := by rw [HM.out]; omega
    simp [soundB, this]
  · have hbig2 : ¬ (65536 : Int) < n := by omega
    go_enter Try.func41, Try.ntmps41
    go_wp2
    go_loop [10] (fun q => ∃ k : Nat, q = .int .i64 k ∧ k ≤ n ∧ (M.take k).all (snd1 M) = true) (fun q => (n - (intOf q)).toNat)
    case atStart => exact ⟨0, rfl, Nat.zero_le _, by simp⟩
    case round =>
      obtain ⟨k, rfl, hk, hin⟩ := hrel
      have HK := hid hin
      clear hin
      by_cases hlt : k < n
      · obtain ⟨b, o, rfl, hcs⟩ := HN.out.addr (by rw [HM.out]; omega)
        obtain ⟨fa, fc, c0, hI, _, hfl⟩ := hcs k (by rw [HM.out]; omega)
        have HT := hid (snd_take (M := M) (k := k) (by rw [HM.out]; exact hlt))
        have HF := hid (fun h => snd_false (M := M) (k := k) (by rw [HM.out]; exact hlt) h)
        have K := nodes_any (some ⟨b, o, none⟩) n c fa (lsAt M k).length fc (lsAt M k) w hI rfl hfl hl
        have HD : Hid (snd1 M (lsAt M k) = (decide ((lsAt M k).length ≤ 8192) && inN n (lsAt M k))) := by show _ = _; rw [← HM.out]; rfl
        generalize lsAt M k = x at *
        generalize hm : x.length = m at *
        clear hcs hI hm
        by_cases h1 : 8192 < m
        · clear K
          go_wp2
          go_ret
          exact ⟨by rw [HF.out (by rw [HD.out]; simp; omega)]; rfl, rfl⟩
        · have h1' : ¬ (8192 : Int) < m := by omega
          cases hi : inN n x
          · rw [hi] at K
            have HI := hid hi
            clear hi
            go_wp2_with (go_at_call 42; refine met K ?_)
            go_ret
            exact ⟨by rw [HF.out (by rw [HD.out, HI.out]; simp)]; rfl, rfl⟩
          · rw [hi] at K
            have HI := hid hi
            clear hi
            go_wp2_with (go_at_call 42; refine met K ?_)
            go_round
            case rel => exact ⟨k + 1, by go_num, by omega, by rw [HT.out, HK.out, HD.out, HI.out]; simp; omega⟩
            case measure => simp [intOf]; omega
      · obtain rfl : k = n := by omega
        go_wp2
        go_ret
        refine ⟨?_, rfl⟩
        have h := HK.out
        rw [← HM.out, List.take_length] at h
        have h2 : M.length ≤ 65536 := by rw [HM.out]; omega
        simp only [soundB, h2]
        have h3 : (M.all fun l => decide (l.length ≤ 8192) && inN M.length l) = true := h
        rw [h3]
        rfl

/-- The error of a net, of roots and of others. -/
def errB (M : List (List Int)) (R T : List Int) : Int := if soundB M = false then 1 else if inN M.length R = false ∨ inN M.length T = false then 2 else 0

theorem fault_any (a : Option Addr) (n c : Nat) (ra : Option Addr) (rn rc : Nat) (ta : Option Addr) (tn tc : Nat) (M : List (List Int)) (R T : List Int) (w : World) (hN : Nt w a M) (hn : M.length = n) (hR : Is w ra R) (hrn : R.length = rn) (hrb : rn ≤ 17592186044416) (hT : Is w ta T) (htn : T.length = tn) (htb : tn ≤ 17592186044416) :
    Calls Try.prog 28 #[.slice a n c, .slice ra rn rc, .slice ta tn tc] w fun e w' => e = .returned (.int .i64 (errB M R T)) ∧ w' = w := by
  have K1 := sound_any a n c M w hN hn
  have hl := hN.len
  rw [hn] at hl
  have K2 := nodes_any a n c ra rn rc R w hR hrn hrb hl
  have K3 := nodes_any a n c ta tn tc T w hT htn htb hl
  have HE : Hid (errB M R T = if soundB M = false then 1 else if inN n R = false ∨ inN n T = false then 2 else 0) := by show _ = _; rw [errB, hn]
  clear hN hn hR hrn hT htn
  cases h1 : soundB M
  · rw [h1] at K1 HE
    clear K2 K3 h1
    go_enter Try.func28, Try.ntmps28
    go_wp2_with (go_at_call 41; refine met K1 ?_)
    go_ret
    exact ⟨by rw [HE.out]; rfl, rfl⟩
  · rw [h1] at K1 HE
    clear h1
    cases h2 : inN n R
    · rw [h2] at K2 HE
      clear K3 h2
      go_enter Try.func28, Try.ntmps28
      go_wp2_with (first | (go_at_call 41; refine met K1 ?_) | (go_at_call 42; refine met K2 ?_))
      go_ret
      exact ⟨by rw [HE.out]; rfl, rfl⟩
    · rw [h2] at K2 HE
      clear h2
      cases h3 : inN n T
      · rw [h3] at K3 HE
        clear h3
        go_enter Try.func28, Try.ntmps28
        go_wp2_with fail
        refine met K1 ?_
        go_wp2_with fail
        refine met K2 ?_
        go_wp2_with fail
        refine met K3 ?_
        go_wp2_with fail
        go_ret
        exact ⟨by rw [HE.out]; rfl, rfl⟩
      · rw [h3] at K3 HE
        clear h3
        go_enter Try.func28, Try.ntmps28
        go_wp2_with fail
        refine met K1 ?_
        go_wp2_with fail
        refine met K2 ?_
        go_wp2_with fail
        refine met K3 ?_
        go_wp2_with fail
        go_ret
        exact ⟨by rw [HE.out]; rfl, rfl⟩

end Go.Proofs.Ytfjabjnajcfamaa
