/-
  What Part and Put answer, and what is put back; no statement is proved here.
-/
import Derived.Test.YtfabhhmeanpmhaaDoorPut
import Derived.Test.YtfabhhmeanpmhaaDoorAwake
import Derived.Test.YtfabhhmeanpmhaaDoorEq
namespace Go.Proofs.YtfabhhmeanpmhaaDoor
open Go.RowKit

theorem fchk_zero {ts : List Ty} {d : Nat} {t : Int} {l : List Cl} {i : Int} (h : fchk ts d t l i = 0) : vchk ts d t l = 0 ∧ ∃ q ii : Nat, t = q ∧ i = ii ∧ ii < (parts (tyAt ts q)).length := by
  by_cases h1 : vchk ts d t l = 0
  · obtain ⟨_, h0, _⟩ := bad_zero (vchk_zero h1).1
    obtain ⟨q, rfl⟩ : ∃ q : Nat, t = q := ⟨t.toNat, by omega⟩
    by_cases h2 : parts (tyAt ts q) = []
    · rw [fchk_kind h1 h2] at h; omega
    · by_cases h3 : i < 0 ∨ (parts (tyAt ts q)).length ≤ i
      · rw [fchk_range h1 h2 h3] at h; omega
      · exact ⟨h1, q, i.toNat, rfl, by omega, by omega⟩
  · rw [fchk_bad h1] at h; exact absurd h h1

/-- What Part answers. -/
noncomputable def partV (ts : List Ty) (d : Nat) (t : Int) (l : List Cl) (i : Int) : List Cl := if fchk ts d t l i = 0 then partL ts t l i.toNat else []
open Classical in
/-- Put's error. -/
noncomputable def putE (ts : List Ty) (d : Nat) (t : Int) (l : List Cl) (i : Int) (m : List Cl) : Int :=
  if fchk ts d t l i ≠ 0 then fchk ts d t l i else if ¬ OkV ts d (pk ts t i.toNat) m then 1 else if siz (putL ts t l i.toNat m) ≤ 256 then 0 else 6
/-- What Put answers. -/
noncomputable def putV (ts : List Ty) (d : Nat) (t : Int) (l : List Cl) (i : Int) (m : List Cl) : List Cl := if putE ts d t l i m = 0 then putL ts t l i.toNat m else []


theorem putIn_get {l m : List Cl} {b i : Nat} (h : b + m.length ≤ l.length) : (putIn l m b)[i]? = if i < b then l[i]? else if i < b + m.length then m[i - b]? else l[i]? := by
  have : putIn l m b = splice l b m := by unfold putIn splice; rw [List.append_assoc]
  rw [this, splice_get h]
theorem sub_get {α : Type} {l : List α} {b e i : Nat} : ((l.take e).drop b)[i]? = if b + i < e then l[b + i]? else none := by
  rw [List.getElem?_drop, List.getElem?_take]
theorem sub_len {α : Type} {l : List α} {b e : Nat} (he : e ≤ l.length) : ((l.take e).drop b).length = e - b := by simp; omega

theorem putIn_sub {l : List Cl} {b e : Nat} (hb : b ≤ e) (he : e ≤ l.length) : putIn l ((l.take e).drop b) b = l := by
  have hl := sub_len (b := b) he
  refine List.ext_getElem? fun i => ?_
  rw [putIn_get (by omega), hl, sub_get]
  by_cases h1 : i < b
  · rw [if_pos h1]
  · rw [if_neg h1]
    by_cases h2 : i < b + (e - b)
    · rw [if_pos h2, if_pos (by omega), show b + (i - b) = i by omega]
    · rw [if_neg h2]
theorem sub_putIn {l m : List Cl} {b : Nat} (h : b + m.length ≤ l.length) : ((putIn l m b).take (b + m.length)).drop b = m := by
  refine List.ext_getElem? fun i => ?_
  rw [sub_get, putIn_get h]
  by_cases h1 : b + i < b + m.length
  · rw [if_pos h1, if_neg (by omega), if_pos h1, show b + i - b = i by omega]
  · rw [if_neg h1, List.getElem?_eq_none (by omega)]
theorem putIn_back {l m : List Cl} {b e : Nat} (he : e = b + m.length) (h : e ≤ l.length) : putIn (putIn l m b) ((l.take e).drop b) b = l := by
  have hl := sub_len (b := b) h
  have hp := putIn_len (l := l) (m := m) (b := b) (by omega)
  refine List.ext_getElem? fun i => ?_
  rw [putIn_get (by omega), hl, sub_get, putIn_get (by omega)]
  by_cases h1 : i < b
  · rw [if_pos h1, if_pos h1]
  · rw [if_neg h1, if_neg h1]
    by_cases h2 : i < b + (e - b)
    · rw [if_pos h2, if_pos (by omega), show b + (i - b) = i by omega]
    · rw [if_neg h2, if_neg (by omega)]
theorem sub_other {l m : List Cl} {b b' e' : Nat} (h : b + m.length ≤ l.length) (ho : e' ≤ b ∨ b + m.length ≤ b') : ((putIn l m b).take e').drop b' = (l.take e').drop b' := by
  refine List.ext_getElem? fun i => ?_
  rw [sub_get, sub_get, putIn_get h]
  by_cases h1 : b' + i < e'
  · rw [if_pos h1, if_pos h1]
    rcases ho with ho | ho
    · rw [if_pos (by omega)]
    · rw [if_neg (by omega), if_neg (by omega)]
  · rw [if_neg h1, if_neg h1]

/-- One sound cell. -/
def ok1 (ts : List Ty) (d : Nat) (k : Int) (c : Cl) : Prop := Fits k c.n c.s c.t c.box.length ∧ (c.t ≠ 0 → Boxable ts c.t ∧ Okv ts d (kinds ts (c.t - 1)) c.box)
theorem okv_succ {ts : List Ty} {d : Nat} {ks : List Int} {l : List Cl} : Okv ts (d + 1) ks l ↔ l.length = ks.length ∧ ∀ i, i < l.length → ok1 ts d (ks.getD i 0) (cAt l i) := Iff.rfl

theorem getD_sub {ks : List Int} {b e i : Nat} (h : b + i < e) : ((ks.take e).drop b).getD i 0 = ks.getD (b + i) 0 := by
  rw [List.getD_eq_getElem?_getD, List.getD_eq_getElem?_getD, sub_get, if_pos h]

theorem Okv.sub {ts : List Ty} {d : Nat} {ks : List Int} {l : List Cl} (h : Okv ts d ks l) {b e : Nat} (he : e ≤ l.length) : Okv ts d ((ks.take e).drop b) ((l.take e).drop b) := by
  have hl := okv_len h
  cases d with
  | zero => show _ = _; rw [sub_len he, sub_len (by omega)]
  | succ d =>
    rw [okv_succ] at *
    refine ⟨by rw [sub_len he, sub_len (by omega)], fun i hi => ?_⟩
    rw [sub_len he] at hi
    rw [getD_sub (by omega), cAt_sub (by omega)]
    exact h.2 _ (by omega)
theorem Okv.put {ts : List Ty} {d : Nat} {ks : List Int} {l m : List Cl} {b e : Nat} (h : Okv ts d ks l) (hm : Okv ts d ((ks.take e).drop b) m) (he : e = b + m.length) (hle : e ≤ l.length) : Okv ts d ks (putIn l m b) := by
  have hl := okv_len h
  cases d with
  | zero => show _ = _; rw [putIn_len (by omega), hl]
  | succ d =>
    rw [okv_succ] at *
    refine ⟨by rw [putIn_len (by omega), hl], fun i hi => ?_⟩
    rw [putIn_len (by omega)] at hi
    by_cases h1 : i < b
    · rw [putIn_lo (by omega) h1]; exact h.2 i hi
    · by_cases h2 : i < b + m.length
      · rw [putIn_mid (by omega) (by omega) h2]
        have := hm.2 (i - b) (by omega)
        rw [getD_sub (by omega), show b + (i - b) = i by omega] at this
        exact this
      · rw [putIn_hi (by omega) (by omega)]; exact h.2 i hi

/-- The kinds of a part are those of its place. -/
theorem kinds_part {ts : List Ty} {q i : Nat} (hS : Sound ts) (hq : q < ts.length) (hi : i < (parts (tyAt ts q)).length) :
    ((kinds ts q).take (pb ts q (i + 1))).drop (pb ts q i) = kinds ts ((parts (tyAt ts q)).getD i 0) := by
  have hps : parts (tyAt ts q) ≠ [] := fun e => by rw [e] at hi; simp at hi
  have hk : kinds ts q = (parts (tyAt ts q)).flatMap (kinds ts) := by
    have := kinds_eq hS.2.1 (t := q) (by omega) (by omega)
    rwa [if_neg hps] at this
  have hF := (hS.2.1 q (by omega)).1
  have hw : ∀ p ∈ parts (tyAt ts q), ((kinds ts p).length : Int) = (M ts p).width := fun p hp => by
    have hb := hF.below p hp
    exact kinds_len hS.2.1 (p.toNat + 1) p (by omega) (by omega) (by omega)
  have hpb : ∀ j, pb ts q j = (((parts (tyAt ts q)).take j).flatMap (kinds ts)).length := fun j => by
    have := sumWidth_kinds ((parts (tyAt ts q)).take j) (fun p hp => hw p (List.mem_of_mem_take hp))
    have e1 : pb ts q j = (offs ts q j).toNat := rfl
    have e2 : offs ts q j = sumWidth (ms ts) ((parts (tyAt ts q)).take j) := rfl
    omega
  rw [hk, hpb, hpb]
  generalize parts (tyAt ts q) = ps at *
  have e1 : ps = ps.take i ++ (ps.getD i 0 :: ps.drop (i + 1)) := by
    have := List.take_append_drop i ps
    rw [List.drop_eq_getElem_cons hi] at this
    rw [show ps.getD i 0 = ps[i] by simp [hi]]
    exact this.symm
  have e2 : ps.take (i + 1) = ps.take i ++ [ps.getD i 0] := by
    rw [List.take_succ_eq_append_getElem hi, show ps.getD i 0 = ps[i] by simp [hi]]
  rw [e2]
  have e3 : ps.flatMap (kinds ts) = (ps.take i).flatMap (kinds ts) ++ (kinds ts (ps.getD i 0) ++ (ps.drop (i + 1)).flatMap (kinds ts)) := by
    rw [congrArg (List.flatMap (kinds ts)) e1, List.flatMap_append, List.flatMap_cons]
  rw [e3, List.flatMap_append]
  simp only [List.flatMap_cons, List.flatMap_nil, List.append_nil]
  rw [← List.append_assoc, List.take_left' rfl, List.drop_left' rfl]

theorem siz_le {l : List Cl} (h : siz l ≤ 256) : totL l ≤ 256 := by unfold siz at h; omega

/-- A part is sound, and with it put back nothing has changed. -/
theorem back1 {ts : List Ty} {d q : Nat} {l : List Cl} {i : Nat} (hv : vchk ts d q l = 0) (hi : i < (parts (tyAt ts q)).length) :
    OkV ts d (pk ts q i) (partL ts q l i) ∧ putL ts q l i (partL ts q l i) = l := by
  obtain ⟨o1, o2, o3, o4, o5, o6⟩ := offs_facts hv hi
  obtain ⟨p1, p2, p3⟩ := pk_facts hv hi
  obtain ⟨hbz, hOk⟩ := vchk_zero hv
  obtain ⟨hS, h0, h1⟩ := bad_zero hbz
  have hk := kinds_part hS (by omega) hi
  refine ⟨⟨?_, ?_⟩, putIn_sub (Nat.le_of_lt o3) o4⟩
  · have h2 := (totL_drop (l.take (pb ts q (i + 1))) (pb ts q i)).1
    have h3 := totL_take_le l (pb ts q (i + 1))
    have h4 := siz_le hOk.1
    unfold siz partL
    omega
  · rw [← p1, ← hk]
    exact hOk.2.sub o4

/-- A value with a sound part put in, small enough, is sound. -/
theorem back2 {ts : List Ty} {d q : Nat} {l m : List Cl} {i : Nat} (hv : vchk ts d q l = 0) (hi : i < (parts (tyAt ts q)).length) (hm : OkV ts d (pk ts q i) m) (hs : siz (putL ts q l i m) ≤ 256) :
    vchk ts d q (putL ts q l i m) = 0 ∧ partL ts q (putL ts q l i m) i = m ∧ putL ts q (putL ts q l i m) i (partL ts q l i) = l ∧ ∀ j, j ≠ i → j < (parts (tyAt ts q)).length → partL ts q (putL ts q l i m) j = partL ts q l j := by
  obtain ⟨o1, o2, o3, o4, o5, o6⟩ := offs_facts hv hi
  obtain ⟨p1, p2, p3⟩ := pk_facts hv hi
  obtain ⟨hbz, hOk⟩ := vchk_zero hv
  obtain ⟨hS, h0, h1⟩ := bad_zero hbz
  have hk := kinds_part hS (by omega) hi
  have hlm := okv_len hm.2
  have he : pb ts q (i + 1) = pb ts q i + m.length := by omega
  refine ⟨vchk_ok hbz ⟨hs, hOk.2.put (e := pb ts q (i + 1)) (by rw [hk, p1]; exact hm.2) he o4⟩, ?_, putIn_back he o4, fun j hj hjl => ?_⟩
  · unfold partL putL
    rw [he]
    exact sub_putIn (by omega)
  · obtain ⟨u1, u2, u3, u4, _, _⟩ := offs_facts hv hjl
    unfold partL putL
    refine sub_other (by omega) ?_
    have hmono : ∀ a b : Nat, a ≤ b → b ≤ (parts (tyAt ts q)).length → pb ts q a ≤ pb ts q b := by
      intro a b hab
      induction b with
      | zero =>
        intro _
        have ha : a = 0 := by omega
        rw [ha]; exact Nat.le_refl _
      | succ b ih =>
        intro hb
        by_cases e : a = b + 1
        · rw [e]; exact Nat.le_refl _
        · have := ih (by omega) (by omega)
          have := (offs_facts hv (i := b) (by omega)).2.2.1
          omega
    by_cases hlt : j < i
    · left; exact hmono (j + 1) i (by omega) (by omega)
    · right; rw [← he]; exact hmono (i + 1) j (by omega) (by omega)

theorem fchk_cong {ts : List Ty} {d : Nat} {t : Int} {l l' : List Cl} (i : Int) (h : vchk ts d t l = 0) (h' : vchk ts d t l' = 0) : fchk ts d t l' i = fchk ts d t l i := by
  unfold fchk
  rw [h, h']

/-- All that CellsBack asks, in one. -/
structure Backs (ts : List Ty) (d : Nat) (t : Int) (l : List Cl) (i : Int) (m : List Cl) : Prop where
  same : putE ts d t l i (partV ts d t l i) = 0 ∧ putV ts d t l i (partV ts d t l i) = l
  errs : putE ts d t l i m = 0 ∨ putE ts d t l i m = 1 ∨ putE ts d t l i m = 6
  part : putE ts d t l i m = 0 → fchk ts d t (putV ts d t l i m) i = 0 ∧ partV ts d t (putV ts d t l i m) i = m
  back : putE ts d t l i m = 0 → putE ts d t (putV ts d t l i m) i (partV ts d t l i) = 0 ∧ putV ts d t (putV ts d t l i m) i (partV ts d t l i) = l
  other : putE ts d t l i m = 0 → ∀ j, fchk ts d t (putV ts d t l i m) j = fchk ts d t l j ∧ (i ≠ j → partV ts d t (putV ts d t l i m) j = partV ts d t l j)

theorem putE_ok {ts : List Ty} {d q ii : Nat} {l m : List Cl} (h : fchk ts d q l ii = 0) (ho : OkV ts d (pk ts q ii) m) (hs : siz (putL ts q l ii m) ≤ 256) : putE ts d q l ii m = 0 := by
  unfold putE; rw [Int.toNat_natCast, if_neg (by simpa using h), if_neg (by simpa using ho), if_pos hs]
theorem putE_inv {ts : List Ty} {d q ii : Nat} {l m : List Cl} (h : fchk ts d q l ii = 0) (he : putE ts d q l ii m = 0) : OkV ts d (pk ts q ii) m ∧ siz (putL ts q l ii m) ≤ 256 := by
  unfold putE at he
  rw [Int.toNat_natCast, if_neg (by simpa using h)] at he
  by_cases ho : OkV ts d (pk ts q ii) m
  · rw [if_neg (by simpa using ho)] at he
    by_cases hs : siz (putL ts q l ii m) ≤ 256
    · exact ⟨ho, hs⟩
    · rw [if_neg hs] at he; omega
  · rw [if_pos ho] at he; omega

theorem backs {ts : List Ty} {d : Nat} {t : Int} {l : List Cl} {i : Int} (m : List Cl) (h : fchk ts d t l i = 0) : Backs ts d t l i m := by
  obtain ⟨hv, q, ii, rfl, rfl, hi⟩ := fchk_zero h
  obtain ⟨a1, a2⟩ := back1 hv hi
  have hpv : partV ts d q l ii = partL ts q l ii := by rw [partV, if_pos h]; rfl
  have hs1 : siz (putL ts q l ii (partL ts q l ii)) ≤ 256 := by rw [a2]; exact (vchk_zero hv).2.1
  have hps : parts (tyAt ts q) ≠ [] := fun e => by rw [e] at hi; simp at hi
  refine ⟨?_, ?_, fun he => ?_, fun he => ?_, fun he j => ?_⟩
  · rw [hpv]
    have e1 := putE_ok h a1 hs1
    exact ⟨e1, by rw [putV, if_pos e1]; exact a2⟩
  · unfold putE
    rw [if_neg (by simpa using h)]
    split
    · exact .inr (.inl rfl)
    · split
      · exact .inl rfl
      · exact .inr (.inr rfl)
  all_goals
    obtain ⟨ho, hs⟩ := putE_inv h he
    obtain ⟨b1, b2, b3, b4⟩ := back2 hv hi ho hs
    have hx : putV ts d q l ii m = putL ts q l ii m := by rw [putV, if_pos he]; rfl
    rw [hx]
    have hf := (fchk_cong (ii : Int) hv b1).trans h
  · exact ⟨hf, by rw [partV, if_pos hf]; exact b2⟩
  · rw [hpv]
    have e1 := putE_ok (m := partL ts q l ii) hf a1 (by rw [b3]; exact (vchk_zero hv).2.1)
    exact ⟨e1, by rw [putV, if_pos e1]; exact b3⟩
  · refine ⟨fchk_cong j hv b1, fun hne => ?_⟩
    by_cases hj : fchk ts d q l j = 0
    · obtain ⟨_, q', jj, hq, rfl, hjl⟩ := fchk_zero hj
      obtain rfl : q = q' := by omega
      rw [partV, partV, fchk_cong _ hv b1, if_pos hj, if_pos hj]
      exact b4 jj (by omega) hjl
    · rw [partV, partV, fchk_cong _ hv b1, if_neg hj, if_neg hj]

end Go.Proofs.YtfabhhmeanpmhaaDoor
