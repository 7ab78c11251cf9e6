/-
  Alloc and Free on pages, and pages on which a script was carried out; no statement is proved here.
-/
import Derived.Test.YtkdgekdacinlhaaMath
namespace Go.Proofs.Ytkdgekdacinlhaa
open Go.RowKit

def fit (n : Int) (r : Rn) : Bool := !r.u && decide (n ≤ (r.n : Int))
def hit (s : Int) (r : Rn) : Bool := r.u && ((r.s : Int) == s)
/-- What Alloc makes of pages, and its two answers. -/
def alR (L : List Rn) (n : Int) : List Rn × Int × Int :=
  if n < 1 then (L, 0, 2) else if L.findIdx (fit n) < L.length then (takeL L (L.findIdx (fit n)) n.toNat, (rnAt L (L.findIdx (fit n))).s, 0) else (L, 0, 7)
def frR (L : List Rn) (s : Int) : List Rn × Int × Int :=
  if L.findIdx (hit s) < L.length then (relL L (L.findIdx (hit s)), (rnAt L (L.findIdx (hit s))).n, 0) else (L, 0, 4)

theorem idx_at {L : List Rn} {q : Rn → Bool} (h : L.findIdx q < L.length) : q (rnAt L (L.findIdx q)) = true := by
  have := List.findIdx_getElem (p := q) (w := h)
  simpa [rnAt, List.getD, h] using this
theorem idx_lt {L : List Rn} {q : Rn → Bool} {j : Nat} (h : j < L.findIdx q) (hj : j < L.length) : q (rnAt L j) = false := by
  have := List.not_of_lt_findIdx h
  simpa [rnAt, List.getD, hj] using this

theorem inv_al {P : Nat} {L : List Rn} (h : Inv P L) (n : Int) : Inv P (alR L n).1 := by
  unfold alR
  split
  · exact h
  · split
    · rename_i h1 h2
      have hq := idx_at h2
      simp only [fit, Bool.and_eq_true, Bool.not_eq_true', decide_eq_true_eq] at hq
      have hs := split_at L _ h2
      have hl : (L.take (L.findIdx (fit n))).length = L.findIdx (fit n) := by simp; omega
      rw [hs] at h
      have := inv_take (n := n.toNat) h hq.1 (by omega) (by omega)
      rw [← hs, hl] at this
      exact this
    · exact h
theorem inv_fr {P : Nat} {L : List Rn} (h : Inv P L) (s : Int) : Inv P (frR L s).1 := by
  unfold frR
  split
  · exact inv_rel h ‹_›
  · exact h

theorem alloc_any {P : Nat} (p : Nat) (n : Int) (v : Value) (L : List Rn) (w : World) (hR : Rs w p v L) (hI : Inv P L) :
    Calls Try.prog 19 #[.pointer (some ⟨p, 0, none⟩), .int .i64 n] w (AlPost w p v (alR L n).1 (.tuple #[.int .i64 (alR L n).2.1, .int .i64 (alR L n).2.2])) := by
  have hl := hI.len
  have hP := hI.le
  by_cases h1 : n < 1
  · rw [show alR L n = (L, 0, 2) by simp [alR, h1]]
    exact (alloc_arg p n w h1).mono (by rintro e w' ⟨rfl, rfl⟩; exact al_keep hR (Ext.refl _ _) _)
  · by_cases h2 : L.findIdx (fit n) < L.length
    · rw [show alR L n = (takeL L (L.findIdx (fit n)) n.toNat, ((rnAt L (L.findIdx (fit n))).s : Int), 0) by simp [alR, h1, h2]]
      have hq := idx_at h2
      simp only [fit, Bool.and_eq_true, Bool.not_eq_true', decide_eq_true_eq] at hq
      have hm := hI.mem _ (rnAt_mem h2)
      have K := alloc_hit p (L.findIdx (fit n)) n.toNat v L w hR (by omega) h2 hq.1 (by omega) (by omega) (fun j hj => by
        have := idx_lt hj (by omega)
        simp only [fit, Bool.and_eq_false_iff, Bool.not_eq_false', decide_eq_false_iff_not] at this
        rcases this with h | h
        · exact .inl h
        · exact .inr (by omega)) (by omega)
      rw [show ((n.toNat : Nat) : Int) = n by omega] at K
      exact K
    · rw [show alR L n = (L, 0, 7) by simp [alR, h1, h2]]
      exact alloc_full p n v L w hR (by omega) (fun j hj => by
        have := idx_lt (q := fit n) (j := j) (L := L) (by have := List.findIdx_le_length (p := fit n) (xs := L); omega) hj
        simp only [fit, Bool.and_eq_false_iff, Bool.not_eq_false', decide_eq_false_iff_not] at this
        rcases this with h | h
        · exact .inl h
        · exact .inr (by omega)) (by omega)

theorem free_any {P : Nat} (p : Nat) (n : Int) (v : Value) (L : List Rn) (w : World) (hR : Rs w p v L) (hI : Inv P L) :
    Calls Try.prog 20 #[.pointer (some ⟨p, 0, none⟩), .int .i64 n] w (AlPost w p v (frR L n).1 (.tuple #[.int .i64 (frR L n).2.1, .int .i64 (frR L n).2.2])) := by
  have hl := hI.len
  have hP := hI.le
  by_cases h2 : L.findIdx (hit n) < L.length
  · rw [show frR L n = (relL L (L.findIdx (hit n)), ((rnAt L (L.findIdx (hit n))).n : Int), 0) by simp [frR, h2]]
    have hq := idx_at h2
    simp only [hit, Bool.and_eq_true, beq_iff_eq] at hq
    exact free_hit p (L.findIdx (hit n)) n v L w hR h2 hq.1 hq.2 hI.few (fun j hj => by
      have := idx_lt hj (by omega)
      simp only [hit, Bool.and_eq_false_iff, beq_eq_false_iff_ne] at this
      exact this) (by omega)
  · rw [show frR L n = (L, 0, 4) by simp [frR, h2]]
    exact free_none p n v L w hR (fun j hj => by
      have := idx_lt (q := hit n) (j := j) (L := L) (by have := List.findIdx_le_length (p := hit n) (xs := L); omega) hj
      simp only [hit, Bool.and_eq_false_iff, beq_eq_false_iff_ne] at this
      exact this) (by omega)

/-! ### scripts -/

/-- A script in memory: kinds and numbers. -/
structure Sc (w : World) (a : Option Addr) (S : List (Int × Int)) : Prop where
  at_ : S = [] ∨ ∃ b o, a = some ⟨b, o, none⟩ ∧ ∀ i, i < S.length → w.cell? ⟨b, o + i * 2, none⟩ = some (.int .i64 (S.getD i (0, 0)).1) ∧ w.cell? ⟨b, o + i * 2 + 1, none⟩ = some (.int .i64 (S.getD i (0, 0)).2)
  len : S.length ≤ 8796093022208
theorem Sc.keep0 {w w' : World} {a : Option Addr} {S : List (Int × Int)} (h : Sc w a S) (e : Ext [] w w') : Sc w' a S := by
  refine ⟨?_, h.len⟩
  rcases h.at_ with h | ⟨b, o, rfl, hc⟩
  · exact .inl h
  · exact .inr ⟨b, o, rfl, fun i hi => ⟨e.cell (hc i hi).1 (by simp), e.cell (hc i hi).2 (by simp)⟩⟩

def opL (L : List Rn) (o : Int × Int) : List Rn := if o.1 = 1 then (frR L o.2).1 else (alR L o.2).1
def grP (pages : Int) : Nat := if pages < 0 ∨ 1024 < pages then 16 else pages.toNat
def grL (pages : Int) (S : List (Int × Int)) : List Rn := S.foldl opL (newR (grP pages))

theorem grP_le (pages : Int) : grP pages ≤ 1024 := by unfold grP; split <;> omega
theorem inv_op {P : Nat} {L : List Rn} (h : Inv P L) (o : Int × Int) : Inv P (opL L o) := by
  unfold opL; split
  · exact inv_fr h _
  · exact inv_al h _
theorem inv_ops {P : Nat} (S : List (Int × Int)) : ∀ {L : List Rn}, Inv P L → Inv P (S.foldl opL L) := by
  induction S with
  | nil => exact fun h => h
  | cons o S ih => exact fun h => ih (inv_op h o)
theorem inv_gr (pages : Int) (S : List (Int × Int)) : Inv (grP pages) (grL pages S) := inv_ops S (inv_new _ (grP_le pages))

/-- Pages of the call's own. -/
def GrPost (w : World) (L : List Rn) (e : Ending) (w' : World) : Prop :=
  ∃ p v, e = .returned (.pointer (some ⟨p, 0, none⟩)) ∧ Rs w' p v L ∧ w.heap.size ≤ p ∧ (∀ g, v.ownBlock = some g → w.heap.size ≤ g) ∧ Ext [] w w'

/-- Behind a call on pages of one's own. -/
theorem al_own {w wr w2 : World} {p : Nat} {v : Value} {L' : List Rn} {r : Value} {e : Ending} (hE : Ext [] w wr) (hp : w.heap.size ≤ p) (hv : ∀ g, v.ownBlock = some g → w.heap.size ≤ g) (h : AlPost wr p v L' r e w2) :
    ∃ v', e = .returned r ∧ Rs w2 p v' L' ∧ (∀ g, v'.ownBlock = some g → w.heap.size ≤ g) ∧ Ext [] w w2 := by
  obtain ⟨v', rfl, hR, hON, hX⟩ := h
  refine ⟨v', rfl, hR, fun g hg => ?_, hE.on hX ?_⟩
  · rcases hON with h | h
    · exact hv g (by rw [← h]; exact hg)
    · have := h g hg; have := hE.size; omega
  · intro x hx
    simp only [List.mem_cons, Option.mem_toList] at hx
    rcases hx with rfl | hx
    · exact hp
    · exact hv x hx

set_option maxRecDepth 100000 in
set_option maxHeartbeats 4000000 in
theorem grown_any (pages : Int) (a : Option Addr) (n c : Nat) (S : List (Int × Int)) (w : World) (hS : Sc w a S) (hn : S.length = n) :
    Calls Try.prog 16 #[.int .i64 pages, .slice a n c] w (GrPost w (grL pages S)) := by
  have hsl := hS.len
  rw [hn] at hsl
  have HS := hid hS
  have HN := hid hn
  clear hS hn
  have HG : Hid ((pages < 0 ∨ 1024 < pages → grP pages = 16) ∧ (¬ (pages < 0 ∨ 1024 < pages) → (grP pages : Int) = pages)) := by
    refine ⟨fun h => by simp [grP, h], fun h => ?_⟩
    simp only [grP, if_neg h]; omega
  have hPl := grP_le pages
  have HI : Hid (∀ k, Inv (grP pages) (grL pages (S.take k))) := fun k => inv_gr pages _
  have HL0 : Hid (grL pages (S.take 0) = newR (grP pages)) := rfl
  have HLs : Hid (∀ k, k < n → grL pages (S.take (k + 1)) = opL (grL pages (S.take k)) (S.getD k (0, 0))) := fun k hk => by
    have hk2 : k < S.length := by rw [HN.out]; exact hk
    unfold grL
    rw [List.take_add_one, List.foldl_append]
    simp [List.getD, hk2]
  have HLe : Hid (grL pages (S.take n) = grL pages S) := by
    show _ = _
    rw [← HN.out, List.take_length]
  generalize grL pages S = Lz at *
  have KN : Calls Try.prog 10 #[.int .i64 (grP pages : Nat)] w (NewPost w (grP pages)) := new_ok (grP pages) w hPl
  generalize grP pages = P at *
  obtain ⟨LL, hLL⟩ : ∃ LL : Nat → List Rn, ∀ k, LL k = grL pages (S.take k) := ⟨_, fun _ => rfl⟩
  simp only [← hLL] at HI HL0 HLs HLe
  clear hLL
  go_enter Try.func16, Try.ntmps16
  go_upto_region 1 with fail
  go_cut [13] from 8 (fun q wc => q = .bool (decide (pages < 0 ∨ 1024 < pages)) ∧ wc = w)
  case first =>
    by_cases h1 : pages < 0
    · have HT : Hid (decide (pages < 0 ∨ 1024 < pages) = true) := by
        show _ = _
        simp [h1]
      go_wp2_with fail
      go_meet
      exact ⟨by rw [HT.out], rfl⟩
    · by_cases h2 : 1024 < pages
      · have HT : Hid (decide (pages < 0 ∨ 1024 < pages) = true) := by
          show _ = _
          simp [h2]
        go_wp2_with fail
        go_meet
        exact ⟨by rw [HT.out], rfl⟩
      · have HT : Hid (decide (pages < 0 ∨ 1024 < pages) = false) := by
          show _ = _
          simp [h1, h2]
        go_wp2_with fail
        go_meet
        exact ⟨by rw [HT.out], rfl⟩
  case rest =>
    obtain ⟨rfl, rfl⟩ := hcut
    have HG1 : Hid ((decide (pages < 0 ∨ 1024 < pages) = true → (16 : Int) = P) ∧ (decide (pages < 0 ∨ 1024 < pages) = false → pages = (P : Int))) :=
      ⟨fun h => by have := HG.out.1 (of_decide_eq_true h); omega, fun h => (HG.out.2 (of_decide_eq_false h)).symm⟩
    generalize decide (pages < 0 ∨ 1024 < pages) = b1 at *
    go_upto_if 13 with fail
    go_cut [0] from 8 (fun q wd => q = .int .i64 (P : Nat) ∧ wd = wc)
    case first =>
      cases b1
      · have h := HG1.out.2 rfl
        have H := hid h
        clear h
        go_wp2_with fail
        go_meet
        exact ⟨by rw [← H.out], rfl⟩
      · have h := HG1.out.1 rfl
        have H := hid h
        clear h
        go_wp2_with fail
        go_meet
        exact ⟨by rw [← H.out], rfl⟩
    case rest =>
      obtain ⟨rfl, rfl⟩ := hcut
      clear HG HG1
      go_wp2_with fail
      refine KN.mono ?_
      clear KN
      rintro e w1 ⟨p, v, rfl, hR, hp, hv, hE⟩
      rw [← HL0.out] at hR
      have HR := hid hR
      have HV := hid hv
      have HE := hid hE
      clear hR hv hE HL0
      go_wp2_with fail
      go_loopw [7] (fun q wr => ∃ (k : Nat) (v : Value), q = .int .i64 k ∧ k ≤ n ∧ Rs wr p v (LL k) ∧ (∀ g, v.ownBlock = some g → wc.heap.size ≤ g) ∧ Ext [] wc wr) (fun q _ => (n - (intOf q)).toNat)
      case atStart => exact ⟨0, v, rfl, Nat.zero_le _, HR.out, HV.out, HE.out⟩
      case round =>
        clear HR HV HE
        obtain ⟨k, v, rfl, hk, hR, hv, hE⟩ := hrel
        have HR := hid hR
        have HV := hid hv
        have HE := hid hE
        clear hR hv hE
        by_cases hlt : k < n
        · rcases (HS.out.keep0 HE.out).at_ with h0 | ⟨b, o, rfl, hcs⟩
          · have := HN.out
            rw [h0] at this
            simp at this
            omega
          · obtain ⟨c0, c1⟩ := hcs k (by rw [HN.out]; exact hlt)
            have HLk := hid (HLs.out k hlt)
            clear hcs
            have KF := free_any p (S.getD k (0, 0)).2 v (LL k) wr HR.out (HI.out k)
            have KA := alloc_any p (S.getD k (0, 0)).2 v (LL k) wr HR.out (HI.out k)
            generalize S.getD k (0, 0) = o1 at *
            by_cases h1 : o1.1 = 1
            · have h2 : (o1.1 == 1) = true := by simp [h1]
              have HO : Hid (opL (LL k) o1 = (frR (LL k) o1.2).1) := by
                show _ = _
                simp [opL, h1]
              clear h1 KA
              go_wp2_with fail
              refine KF.mono ?_
              clear KF
              rintro e w2 h
              obtain ⟨v', rfl, hR2, hv2, hE2⟩ := al_own HE.out hp HV.out h
              have HR2 := hid hR2
              have HV2 := hid hv2
              have HE2 := hid hE2
              clear h hR2 hv2 hE2
              go_wp2_with fail
              go_roundw
              case rel => exact ⟨k + 1, v', by go_num, by omega, by rw [HLk.out, HO.out]; exact HR2.out, HV2.out, HE2.out⟩
              case measure => simp [intOf]; omega
            · have h2 : (o1.1 == 1) = false := by simp [h1]
              have HO : Hid (opL (LL k) o1 = (alR (LL k) o1.2).1) := by
                show _ = _
                simp [opL, h1]
              clear h1 KF
              go_wp2_with fail
              refine KA.mono ?_
              clear KA
              rintro e w2 h
              obtain ⟨v', rfl, hR2, hv2, hE2⟩ := al_own HE.out hp HV.out h
              have HR2 := hid hR2
              have HV2 := hid hv2
              have HE2 := hid hE2
              clear h hR2 hv2 hE2
              go_wp2_with fail
              go_roundw
              case rel => exact ⟨k + 1, v', by go_num, by omega, by rw [HLk.out, HO.out]; exact HR2.out, HV2.out, HE2.out⟩
              case measure => simp [intOf]; omega
        · obtain rfl : k = n := by omega
          go_wp2_with fail
          go_ret
          exact ⟨p, v, rfl, by rw [← HLe.out]; exact HR.out, hp, HV.out, HE.out⟩

end Go.Proofs.Ytkdgekdacinlhaa
