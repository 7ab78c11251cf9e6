/-
  Part and Put, the program's and the reference's, by what they answer at any input; no statement is proved here.
-/
import Derived.Test.YtfabhhmeanpmhaaDoorRPut
import Derived.Test.YtfabhhmeanpmhaaDoorAwake
import Derived.Test.YtfabhhmeanpmhaaDoorEq
namespace Go.Proofs.YtfabhhmeanpmhaaDoor
open Go.RowKit

theorem fchk_zero {ts : List Ty} {d : Nat} {t : Int} {l : List Cl} {i : Int} (h : fchk ts d t l i = 0) : vchk ts d t l = 0 ∧ ∃ q ii : Nat, t = q ∧ i = ii ∧ ii < (parts (tyAt ts q)).length := by
  by_cases h1 : vchk ts d t l = 0
  · obtain ⟨_, h0, _⟩ := bad_zero (vchk_zero h1).1
    obtain ⟨q, rfl⟩ : ∃ q : Nat, t = q := ⟨t.toNat, by omega⟩
    by_cases h2 : parts (tyAt ts q) = []
    · rw [fchk_kind h1 h2] at h; omega
    · by_cases h3 : i < 0 ∨ (parts (tyAt ts q)).length ≤ i
      · rw [fchk_range h1 h2 h3] at h; omega
      · exact ⟨h1, q, i.toNat, rfl, by omega, by omega⟩
  · rw [fchk_bad h1] at h; exact absurd h h1

/-- What Part answers. -/
noncomputable def partV (ts : List Ty) (d : Nat) (t : Int) (l : List Cl) (i : Int) : List Cl := if fchk ts d t l i = 0 then partL ts t l i.toNat else []
open Classical in
/-- Put's error. -/
noncomputable def putE (ts : List Ty) (d : Nat) (t : Int) (l : List Cl) (i : Int) (m : List Cl) : Int :=
  if fchk ts d t l i ≠ 0 then fchk ts d t l i else if ¬ OkV ts d (pk ts t i.toNat) m then 1 else if siz (putL ts t l i.toNat m) ≤ 256 then 0 else 6
/-- What Put answers. -/
noncomputable def putV (ts : List Ty) (d : Nat) (t : Int) (l : List Cl) (i : Int) (m : List Cl) : List Cl := if putE ts d t l i m = 0 then putL ts t l i.toNat m else []

theorem part_any (ts : List Ty) (ta : Option Addr) (tn tc : Nat) (htn : ts.length = tn) (hc : tn ≤ tc) (d : Nat) (t i : Int) (a : Option Addr) (l : List Cl) (n c : Nat) (w : World) (hC : Cs d w a l) (hn : l.length = n) (hnc : n ≤ c) (hT : TabC w ta ts) (hG : Gl w) :
    Calls Tryd.prog 21 #[.slice ta tn tc, .int .i64 t, .slice a n c, .int .i64 i] w (QPost w d (partV ts d t l i) (fchk ts d t l i)) := by
  by_cases h : fchk ts d t l i = 0
  · obtain ⟨hv, q, ii, rfl, rfl, hi⟩ := fchk_zero h
    rw [partV, if_pos h, h]
    exact part_ok ts ta tn tc htn hc d q ii a l n c w hC hn hnc hT hG hv hi
  · rw [partV, if_neg h]
    exact part_bad ts ta tn tc htn hc d t i a l n c w hC hn hT hG h
theorem rpart_any (ts : List Ty) (ta : Option Addr) (tn tc : Nat) (htn : ts.length = tn) (d : Nat) (t i : Int) (a : Option Addr) (l : List Cl) (n c : Nat) (w : World) (hC : Cs d w a l) (hn : l.length = n) (hnc : n ≤ c) (hT : Tab w ta ts) :
    Calls Tryd.prog 22 #[.slice ta tn tc, .int .i64 t, .slice a n c, .int .i64 i] w (QPost w d (partV ts d t l i) (fchk ts d t l i)) := by
  by_cases h : fchk ts d t l i = 0
  · obtain ⟨hv, q, ii, rfl, rfl, hi⟩ := fchk_zero h
    rw [partV, if_pos h, h]
    exact rpart_ok ts ta tn tc htn d q ii a l n c w hC hn hnc hT hv hi
  · rw [partV, if_neg h]
    exact rpart_bad ts ta tn tc htn d t i a l n c w hC hn hnc hT h
theorem put_any (ts : List Ty) (ta : Option Addr) (tn tc : Nat) (htn : ts.length = tn) (hc : tn ≤ tc) (d : Nat) (t i : Int) (a : Option Addr) (l : List Cl) (n c : Nat) (am : Option Addr) (m : List Cl) (mn mc : Nat) (w : World) (hC : Cs d w a l) (hn : l.length = n) (hnc : n ≤ c) (hM : Cs d w am m) (hmn : m.length = mn) (hT : TabC w ta ts) (hG : Gl w) :
    Calls Tryd.prog 23 #[.slice ta tn tc, .int .i64 t, .slice a n c, .int .i64 i, .slice am mn mc] w (QPost w d (putV ts d t l i m) (putE ts d t l i m)) := by
  by_cases h : fchk ts d t l i = 0
  · obtain ⟨hv, q, ii, rfl, rfl, hi⟩ := fchk_zero h
    by_cases ho : OkV ts d (pk ts q ii) m
    · by_cases hs : siz (putL ts q l ii m) ≤ 256
      · have he : putE ts d q l ii m = 0 := by unfold putE; rw [Int.toNat_natCast, if_neg (by simpa using h), if_neg (by simpa using ho), if_pos hs]
        rw [putV, if_pos he, he]
        exact (put_rest ts ta tn tc htn hc d q ii a l n c am m mn mc w hC hn hnc hM hmn hT hG hv hi ho).mono fun e w' h => h.1 hs
      · have he : putE ts d q l ii m = 6 := by unfold putE; rw [Int.toNat_natCast, if_neg (by simpa using h), if_neg (by simpa using ho), if_neg hs]
        rw [putV, if_neg (by omega), he]
        exact (put_rest ts ta tn tc htn hc d q ii a l n c am m mn mc w hC hn hnc hM hmn hT hG hv hi ho).mono fun e w' h => h.2 hs
    · have he : putE ts d q l ii m = 1 := by unfold putE; rw [Int.toNat_natCast, if_neg (by simpa using h), if_pos ho]
      rw [putV, if_neg (by omega), he]
      exact put_form ts ta tn tc htn hc d q ii a l n c am m mn mc w hC hn hM hmn hT hG hv hi ho
  · have he : putE ts d t l i m = fchk ts d t l i := by unfold putE; rw [if_pos h]
    rw [putV, if_neg (by rw [he]; exact h), he]
    exact put_bad ts ta tn tc htn hc d t i a l n c _ w hC hn hT hG h
theorem rput_any (ts : List Ty) (ta : Option Addr) (tn tc : Nat) (htn : ts.length = tn) (d : Nat) (t i : Int) (a : Option Addr) (l : List Cl) (n c : Nat) (am : Option Addr) (m : List Cl) (mn mc : Nat) (w : World) (hC : Cs d w a l) (hn : l.length = n) (hnc : n ≤ c) (hM : Cs d w am m) (hmn : m.length = mn) (hmc : mn ≤ mc) (hT : Tab w ta ts) :
    Calls Tryd.prog 24 #[.slice ta tn tc, .int .i64 t, .slice a n c, .int .i64 i, .slice am mn mc] w (QPost w d (putV ts d t l i m) (putE ts d t l i m)) := by
  by_cases h : fchk ts d t l i = 0
  · obtain ⟨hv, q, ii, rfl, rfl, hi⟩ := fchk_zero h
    by_cases ho : OkV ts d (pk ts q ii) m
    · by_cases hs : siz (putL ts q l ii m) ≤ 256
      · have he : putE ts d q l ii m = 0 := by unfold putE; rw [Int.toNat_natCast, if_neg (by simpa using h), if_neg (by simpa using ho), if_pos hs]
        rw [putV, if_pos he, he]
        exact (rput_rest ts ta tn tc htn d q ii a l n c am m mn mc w hC hn hnc hM hmn hmc hT hv hi ho).mono fun e w' h => h.1 hs
      · have he : putE ts d q l ii m = 6 := by unfold putE; rw [Int.toNat_natCast, if_neg (by simpa using h), if_neg (by simpa using ho), if_neg hs]
        rw [putV, if_neg (by omega), he]
        exact (rput_rest ts ta tn tc htn d q ii a l n c am m mn mc w hC hn hnc hM hmn hmc hT hv hi ho).mono fun e w' h => h.2 hs
    · have he : putE ts d q l ii m = 1 := by unfold putE; rw [Int.toNat_natCast, if_neg (by simpa using h), if_pos ho]
      rw [putV, if_neg (by omega), he]
      exact rput_form ts ta tn tc htn d q ii a l n c am m mn mc w hC hn hnc hM hmn hmc hT hv hi ho
  · have he : putE ts d t l i m = fchk ts d t l i := by unfold putE; rw [if_pos h]
    rw [putV, if_neg (by rw [he]; exact h), he]
    exact rput_bad ts ta tn tc htn d t i a l n c _ w hC hn hnc hT h

end Go.Proofs.YtfabhhmeanpmhaaDoor
