/-
  What the program reads bytes as; no statement is proved here.
-/
import Derived.Test.YtfjbhpjgidgjaaaDoorRt
import Derived.Test.YtfjbhpjgidgjaaaDoorCheck
namespace Go.Proofs.YtfjbhpjgidgjaaaDoor
open Go.RowKit

theorem rdFields_len {L : List Int} : ∀ (n a : Nat) (acc fs : List Int) (b : Nat), rdFields L n a acc = .good fs b → fs.length = acc.length + n
  | 0, a, acc, fs, b, h => by simp only [rdFields, Rd.good.injEq] at h; rw [← h.1]; rfl
  | n + 1, a, acc, fs, b, h => by
    rw [rdFields] at h
    cases e : rdN L a with
    | none => rw [e] at h; cases h
    | some p =>
      rw [e] at h
      have := rdFields_len n _ _ fs b h
      rw [this]; simp; omega

theorem restP_len {L : List Int} {k : Int} : ∀ (r : Nat) (t : Ty) (a : Nat) (t' : Ty) (b : Nat), t.fields.length ≤ 2147483647 → restP L k r t a = .good t' b → t'.fields.length ≤ 2147483647
  | 0, t, a, t', b, h0, h => by simp only [restP, Rd.good.injEq] at h; rw [← h.1]; exact h0
  | r + 1, t, a, t', b, h0, h => by
    cases hh : has k (3 - r)
    · rw [restP_no hh] at h
      exact restP_len r t a t' b h0 h
    · cases hr : rdN L a with
      | none => rw [restP_bad hh hr] at h; cases h
      | some p =>
        obtain ⟨v, b1⟩ := p
        by_cases hz : r = 0
        · subst hz
          rw [restP_fld hh hr] at h
          cases e : rdFields L v.toNat b1 [] with
          | bad x => rw [e] at h; cases h
          | good f d =>
            rw [e] at h
            have h1 := rdFields_len _ _ _ _ _ e
            have h2 := rdN_bd hr
            unfold lim at h2
            refine restP_len (L := L) (k := k) 0 { t with fields := f } d t' b ?_ h
            simp at h1
            show f.length ≤ _
            omega
        · rw [restP_num hh hz hr] at h
          refine restP_len r _ b1 t' b ?_ h
          unfold setP; split
          · exact h0
          · split <;> exact h0

theorem rdMany_len {L : List Int} : ∀ (n a : Nat) (acc ts : List Ty) (b : Nat), (∀ t ∈ acc, t.fields.length ≤ 2147483647) → rdMany L n a acc = .good ts b → ts.length = acc.length + n ∧ ∀ t ∈ ts, t.fields.length ≤ 2147483647
  | 0, a, acc, ts, b, h0, h => by simp only [rdMany, Rd.good.injEq] at h; rw [← h.1]; exact ⟨rfl, h0⟩
  | n + 1, a, acc, ts, b, h0, h => by
    rw [rdMany_then] at h
    cases e : rdOne L a with
    | bad x => rw [e] at h; cases h
    | good t b1 =>
      rw [e] at h
      have ht : t.fields.length ≤ 2147483647 := by
        rw [rdOne_rest] at e
        cases ek : rdKind L a with
        | bad x => rw [ek] at e; cases e
        | good k a1 => rw [ek] at e; exact restP_len 4 _ _ _ _ (by simp) e
      have := rdMany_len n b1 (acc ++ [t]) ts b (fun x hx => by
        rcases List.mem_append.1 hx with h | h
        · exact h0 x h
        · simp at h; rw [h]; exact ht) h
      refine ⟨by rw [this.1]; simp; omega, this.2⟩

theorem rdTab_len {L : List Int} {ts : List Ty} {b : Nat} (h : rdTab L = .good ts b) : ts.length ≤ 2147483647 ∧ ∀ i : Nat, i < ts.length → (tyAt ts i).fields.length ≤ 2147483647 := by
  unfold rdTab rdNum at h
  cases hr : rdN L 0 with
  | none => rw [hr] at h; cases h
  | some p =>
    obtain ⟨v, a⟩ := p
    rw [hr] at h
    have h1 := rdN_bd hr
    unfold lim at h1
    have h2 := rdMany_len _ _ _ _ _ (by simp) h
    simp at h2
    refine ⟨by omega, fun i hi => ?_⟩
    unfold tyAt
    simp only [Int.toNat_natCast, List.getD, List.getElem?_eq_getElem hi, Option.getD_some]
    exact h2.2 _ (List.getElem_mem hi)

open Classical in
/-- What bytes are read as: the table, the place of the fault, the error. -/
noncomputable def dec (L : List Int) : List Ty × Nat × Int :=
  if 65536 < L.length then ([], 0, 6) else match rdTab L with
  | .bad x => ([], x, 13)
  | .good ts x => if x = L.length then (if Sound ts then (ts, 0, 0) else ([], 0, 1)) else ([], x, 13)

theorem dec_large {L : List Int} (hl : 65536 < L.length) : dec L = ([], 0, 6) := by unfold dec; rw [if_pos hl]
theorem dec_bad {L : List Int} {x : Nat} (hl : ¬ 65536 < L.length) (hr : rdTab L = .bad x) : dec L = ([], x, 13) := by unfold dec; rw [if_neg hl, hr]
theorem dec_short {L : List Int} {x : Nat} {ts : List Ty} (hl : ¬ 65536 < L.length) (hr : rdTab L = .good ts x) (hx : x ≠ L.length) : dec L = ([], x, 13) := by unfold dec; rw [if_neg hl, hr]; simp only; rw [if_neg hx]
theorem dec_yes {L : List Int} {x : Nat} {ts : List Ty} (hl : ¬ 65536 < L.length) (hr : rdTab L = .good ts x) (hx : x = L.length) (hs : Sound ts) : dec L = (ts, 0, 0) := by unfold dec; rw [if_neg hl, hr]; simp only; rw [if_pos hx, if_pos hs]
theorem dec_form {L : List Int} {x : Nat} {ts : List Ty} (hl : ¬ 65536 < L.length) (hr : rdTab L = .good ts x) (hx : x = L.length) (hs : ¬ Sound ts) : dec L = ([], 0, 1) := by unfold dec; rw [if_neg hl, hr]; simp only; rw [if_pos hx, if_neg hs]

def DecPost (w : World) (r : List Ty × Nat × Int) (e : Ending) (w' : World) : Prop :=
  ∃ a c G, e = .returned (.tuple #[.slice a r.1.length c, .int .i64 (r.2.1 : Nat), .int .i64 r.2.2]) ∧ r.1.length ≤ c ∧ Cp w w' a r.1.length c r.1 G ∧ Tab w' a r.1 ∧ Ext [] w w'

/-- The same, and no two lists of fields in one row. -/
def DecPostA (w : World) (r : List Ty × Nat × Int) (e : Ending) (w' : World) : Prop :=
  ∃ a c G, e = .returned (.tuple #[.slice a r.1.length c, .int .i64 (r.2.1 : Nat), .int .i64 r.2.2]) ∧ r.1.length ≤ c ∧ Cp w w' a r.1.length c r.1 G ∧ Tab w' a r.1 ∧ Ext [] w w' ∧ Apt r.1 G r.1.length

theorem cp_nil (w w' : World) (G : Nat → Option Addr × Nat) : Cp w w' none 0 0 [] G := ⟨own_nil _ _ _ _, fun i hi => by omega⟩
theorem tab_nil (w : World) : Tab w none [] := ⟨.inl rfl, by simp⟩
theorem dec_no {w w' : World} {r : List Ty × Nat × Int} {x : Nat} {k : Int} (h : r = ([], x, k)) (hE : Ext [] w w') : DecPost w r (.returned (.tuple #[.slice none 0 0, .int .i64 (x : Nat), .int .i64 k])) w' := by
  subst h
  exact ⟨none, 0, fun _ => (none, 0), rfl, Nat.le_refl _, cp_nil _ _ _, tab_nil _, hE⟩

theorem dec_noA {w w' : World} {r : List Ty × Nat × Int} {x : Nat} {k : Int} (h : r = ([], x, k)) (hE : Ext [] w w') : DecPostA w r (.returned (.tuple #[.slice none 0 0, .int .i64 (x : Nat), .int .i64 k])) w' := by
  subst h
  exact ⟨none, 0, fun _ => (none, 0), rfl, Nat.le_refl _, cp_nil _ _ _, tab_nil _, hE, fun i j hi => by simp at hi⟩

/-- Bytes handed in. -/
structure Inp (w : World) (a : Option Addr) (n c : Nat) (L : List Int) : Prop where
  hb : Bs w a L
  hn : L.length = n
  hv : ∀ x ∈ L, 0 ≤ x ∧ x < 256
  hc : n ≤ c

set_option maxRecDepth 100000 in
set_option maxHeartbeats 1000000 in
theorem decode_apart (a : Option Addr) (L : List Int) (n c : Nat) (w : World) (hI : Inp w a n c L) (hG : Gl w) :
    Calls Tryd.prog 21 #[.slice a n c] w (DecPostA w (dec L)) := by
  have HI := hid hI
  have HG := hid hG
  have HN := hid hI.hn
  clear hI hG
  by_cases hl : 65536 < n
  · have HD : Hid (dec L = ([], 0, 6)) := dec_large (by rw [HN.out]; exact hl)
    go_enter Tryd.func21, Tryd.ntmps21
    go_wp2_with fail
    go_ret3
    exact dec_noA HD.out (Ext.refl _ _)
  · have HLn : Hid (¬ 65536 < L.length) := by show ¬ _; rw [HN.out]; exact hl
    have K := readTable_any a L n c w HI.out.hb HI.out.hn (by omega) HI.out.hv HI.out.hc HG.out
    go_enter Tryd.func21, Tryd.ntmps21
    go_wp2_with fail
    refine K.mono ?_
    clear K
    rintro e w1 ⟨hE1, hm⟩
    have HE1 := hid hE1
    cases hr : rdTab L with
    | bad x =>
      rw [hr] at hm
      obtain ⟨v, rfl⟩ := hm
      have HD2 : Hid (dec L = ([], x, 13)) := dec_bad HLn.out hr
      clear hr hE1
      go_wp2_with fail
      go_ret3
      exact dec_noA HD2.out HE1.out
    | good ts x =>
      rw [hr] at hm
      obtain ⟨a1, c1, G1, rfl, hac, hcp, hapt⟩ := hm
      have HApt := hid hapt
      clear hapt
      have HL := hid (rdTab_len hr)
      have HCp := hid hcp
      by_cases hx : x = n
      · have hbx : (x == n) = true := by simpa using hx
        have HT1 := hid (hcp.tab rfl (by have := HL.out.1; omega) (fun i hi => by have := HL.out.2 i hi; omega))
        have K := check_any a1 ts ts.length c1 w1 HT1.out rfl hac (HG.out.keep0 hE1)
        have HRx : Hid (rdTab L = .good ts x ∧ x = L.length) := ⟨hr, by rw [HN.out]; exact hx⟩
        clear hr hE1 hcp
        rw [hbx]
        clear hx hbx
        go_wp2_with fail
        refine K.mono ?_
        clear K
        rintro e w2 ⟨rfl, hE2⟩
        have HE2 := hid hE2
        have HE12 := hid (HE1.out.trans hE2)
        clear hE2
        by_cases hs : Sound ts
        · have HD3 : Hid (dec L = (ts, 0, 0)) := dec_yes HLn.out HRx.out.1 HRx.out.2 hs
          rw [chk_yes hs]
          clear hs HRx
          go_wp2_with fail
          go_ret3
          rw [HD3.out]
          exact ⟨a1, c1, G1, rfl, hac, HCp.out.keep0 HE2.out, HT1.out.keep0 HE2.out, HE12.out, HApt.out⟩
        · have HD3 : Hid (dec L = ([], 0, 1)) := dec_form HLn.out HRx.out.1 HRx.out.2 hs
          rw [chk_no hs]
          clear hs HRx
          go_wp2_with fail
          go_ret3
          exact dec_noA HD3.out HE12.out
      · have hbx : (x == n) = false := beq_false_of_ne hx
        have HD2 : Hid (dec L = ([], x, 13)) := dec_short HLn.out hr (by rw [HN.out]; exact hx)
        rw [hbx]
        clear hr hE1 hcp hx hbx
        go_wp2_with fail
        go_ret3
        exact dec_noA HD2.out HE1.out

theorem decode_any (a : Option Addr) (L : List Int) (n c : Nat) (w : World) (hI : Inp w a n c L) (hG : Gl w) :
    Calls Tryd.prog 21 #[.slice a n c] w (DecPost w (dec L)) :=
  (decode_apart a L n c w hI hG).mono fun _ _ ⟨a', c', G', h1, h2, h3, h4, h5, _⟩ => ⟨a', c', G', h1, h2, h3, h4, h5⟩

end Go.Proofs.YtfjbhpjgidgjaaaDoor
