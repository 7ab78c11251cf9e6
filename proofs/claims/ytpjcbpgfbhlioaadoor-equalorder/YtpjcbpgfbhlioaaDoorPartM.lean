/-
  Parts of values: where they lie, that they are sound, and the reference's Place; no statement is proved here.
-/
import Derived.Test.YtpjcbpgfbhlioaaDoorEqG
import Derived.Test.YtpjcbpgfbhlioaaDoorRSound
import Derived.Deep.RegionHeld3
namespace Go.Proofs.YtpjcbpgfbhlioaaDoor
open Go.RowKit

/-- Where part i begins. -/
def offs (ts : List Ty) (t : Int) (i : Nat) : Int := sumWidth (ms ts) ((parts (tyAt ts t)).take i)

theorem sumWidth_bd {E : List Me} : ∀ {l : List Int}, (∀ p ∈ l, 0 ≤ (at' E p).width ∧ (at' E p).width ≤ 16) → 0 ≤ sumWidth E l ∧ sumWidth E l ≤ 16 * l.length
  | [], _ => by simp [sumWidth]
  | p :: r, h => by
    have h1 := h p (by simp)
    have h2 := sumWidth_bd (l := r) (fun q hq => h q (by simp [hq]))
    rw [sumWidth, List.length_cons]
    omega

/-- The place where part i begins. -/
def pb (ts : List Ty) (t : Int) (i : Nat) : Nat := (offs ts t i).toNat
/-- Part i of a value. -/
def partL (ts : List Ty) (t : Int) (l : List Cl) (i : Nat) : List Cl := (l.take (pb ts t (i + 1))).drop (pb ts t i)

theorem offs_facts {ts : List Ty} {d q : Nat} {l : List Cl} {i : Nat} (hv : vchk ts d q l = 0) (hi : i < (parts (tyAt ts q)).length) :
    offs ts q i = pb ts q i ∧ offs ts q (i + 1) = pb ts q (i + 1) ∧ pb ts q i < pb ts q (i + 1) ∧ pb ts q (i + 1) ≤ l.length ∧ 0 < l.length ∧ (partL ts q l i).length = pb ts q (i + 1) - pb ts q i := by
  obtain ⟨hbz, hOk⟩ := vchk_zero hv
  obtain ⟨hS, h0, h1⟩ := bad_zero hbz
  have hF := (hS.2.1 q (by omega)).1
  have hps : parts (tyAt ts q) ≠ [] := fun e => by rw [e] at hi; simp at hi
  have hw : ∀ p ∈ parts (tyAt ts q), 1 ≤ (at' (ms ts) p).width ∧ (at' (ms ts) p).width ≤ 16 := fun p hp => by
    have hb := hF.below p hp
    have hf := sound_fit hS (i := p.toNat) (by omega)
    rw [show ((p.toNat : Nat) : Int) = p by omega] at hf
    exact ⟨hf.1.w0, hf.2⟩
  have hw' : ∀ p ∈ parts (tyAt ts q), 0 ≤ (at' (ms ts) p).width ∧ (at' (ms ts) p).width ≤ 16 := fun p hp => ⟨by have := (hw p hp).1; omega, (hw p hp).2⟩
  have hlen : (l.length : Int) = sumWidth (ms ts) (parts (tyAt ts q)) := by
    have h2 : l.length = (kinds ts q).length := by
      cases d with
      | zero => exact hOk.2
      | succ d => exact hOk.2.1
    have h3 := kinds_len hS.2.1 (q + 1) q (by omega) (by omega) (by omega)
    rw [made_of hF (by omega) hps] at h3
    rw [h2]; exact h3
  have hl1 : 0 < l.length := by
    have h2 : l.length = (kinds ts q).length := by
      cases d with
      | zero => exact hOk.2
      | succ d => exact hOk.2.1
    have h3 := kinds_len hS.2.1 (q + 1) q (by omega) (by omega) (by omega)
    have h4 := (sound_fit hS (i := q) (by omega)).1.w0
    omega
  have hb0 := sumWidth_bd (E := ms ts) (l := (parts (tyAt ts q)).take i) (fun p hp => hw' p (List.mem_of_mem_take hp))
  have hsn := sumWidth_snoc (ms ts) (parts (tyAt ts q)) i hi
  have hwi := hw ((parts (tyAt ts q)).getD i 0) (by rw [show (parts (tyAt ts q)).getD i 0 = (parts (tyAt ts q))[i] by simp [hi]]; exact List.getElem_mem _)
  have hdr := sumWidth_bd (E := ms ts) (l := (parts (tyAt ts q)).drop (i + 1)) (fun p hp => hw' p (List.mem_of_mem_drop hp))
  have hap := sumWidth_append (ms ts) ((parts (tyAt ts q)).take (i + 1)) ((parts (tyAt ts q)).drop (i + 1))
  rw [List.take_append_drop] at hap
  have e1 : offs ts q i = sumWidth (ms ts) ((parts (tyAt ts q)).take i) := rfl
  have e2 : offs ts q (i + 1) = sumWidth (ms ts) ((parts (tyAt ts q)).take (i + 1)) := rfl
  have e3 : pb ts q i = (offs ts q i).toNat := rfl
  have e4 : pb ts q (i + 1) = (offs ts q (i + 1)).toNat := rfl
  refine ⟨by omega, by omega, by omega, by omega, hl1, ?_⟩
  unfold partL
  rw [List.length_drop, List.length_take]
  omega

theorem sub_get {α : Type} {l : List α} {b e i : Nat} : ((l.take e).drop b)[i]? = if b + i < e then l[b + i]? else none := by
  rw [List.getElem?_drop, List.getElem?_take]
theorem sub_len {α : Type} {l : List α} {b e : Nat} (he : e ≤ l.length) : ((l.take e).drop b).length = e - b := by simp; omega

/-- One sound cell. -/
def ok1 (ts : List Ty) (d : Nat) (k : Int) (c : Cl) : Prop := Fits k c.n c.s c.t c.box.length ∧ (c.t ≠ 0 → Boxable ts c.t ∧ Okv ts d (kinds ts (c.t - 1)) c.box)
theorem okv_succ {ts : List Ty} {d : Nat} {ks : List Int} {l : List Cl} : Okv ts (d + 1) ks l ↔ l.length = ks.length ∧ ∀ i, i < l.length → ok1 ts d (ks.getD i 0) (cAt l i) := Iff.rfl

theorem getD_sub {ks : List Int} {b e i : Nat} (h : b + i < e) : ((ks.take e).drop b).getD i 0 = ks.getD (b + i) 0 := by
  rw [List.getD_eq_getElem?_getD, List.getD_eq_getElem?_getD, sub_get, if_pos h]

theorem Okv.sub {ts : List Ty} {d : Nat} {ks : List Int} {l : List Cl} (h : Okv ts d ks l) {b e : Nat} (he : e ≤ l.length) : Okv ts d ((ks.take e).drop b) ((l.take e).drop b) := by
  have hl := okv_len h
  cases d with
  | zero => show _ = _; rw [sub_len he, sub_len (by omega)]
  | succ d =>
    rw [okv_succ] at *
    refine ⟨by rw [sub_len he, sub_len (by omega)], fun i hi => ?_⟩
    rw [sub_len he] at hi
    rw [getD_sub (by omega), cAt_sub (by omega)]
    exact h.2 _ (by omega)
/-- The kinds of a part are those of its place. -/
theorem kinds_part {ts : List Ty} {q i : Nat} (hS : Sound ts) (hq : q < ts.length) (hi : i < (parts (tyAt ts q)).length) :
    ((kinds ts q).take (pb ts q (i + 1))).drop (pb ts q i) = kinds ts ((parts (tyAt ts q)).getD i 0) := by
  have hps : parts (tyAt ts q) ≠ [] := fun e => by rw [e] at hi; simp at hi
  have hk : kinds ts q = (parts (tyAt ts q)).flatMap (kinds ts) := by
    have := kinds_eq hS.2.1 (t := q) (by omega) (by omega)
    rwa [if_neg hps] at this
  have hF := (hS.2.1 q (by omega)).1
  have hw : ∀ p ∈ parts (tyAt ts q), ((kinds ts p).length : Int) = (M ts p).width := fun p hp => by
    have hb := hF.below p hp
    exact kinds_len hS.2.1 (p.toNat + 1) p (by omega) (by omega) (by omega)
  have hpb : ∀ j, pb ts q j = (((parts (tyAt ts q)).take j).flatMap (kinds ts)).length := fun j => by
    have := sumWidth_kinds ((parts (tyAt ts q)).take j) (fun p hp => hw p (List.mem_of_mem_take hp))
    have e1 : pb ts q j = (offs ts q j).toNat := rfl
    have e2 : offs ts q j = sumWidth (ms ts) ((parts (tyAt ts q)).take j) := rfl
    omega
  rw [hk, hpb, hpb]
  generalize parts (tyAt ts q) = ps at *
  have e1 : ps = ps.take i ++ (ps.getD i 0 :: ps.drop (i + 1)) := by
    have := List.take_append_drop i ps
    rw [List.drop_eq_getElem_cons hi] at this
    rw [show ps.getD i 0 = ps[i] by simp [hi]]
    exact this.symm
  have e2 : ps.take (i + 1) = ps.take i ++ [ps.getD i 0] := by
    rw [List.take_succ_eq_append_getElem hi, show ps.getD i 0 = ps[i] by simp [hi]]
  rw [e2]
  have e3 : ps.flatMap (kinds ts) = (ps.take i).flatMap (kinds ts) ++ (kinds ts (ps.getD i 0) ++ (ps.drop (i + 1)).flatMap (kinds ts)) := by
    rw [congrArg (List.flatMap (kinds ts)) e1, List.flatMap_append, List.flatMap_cons]
  rw [e3, List.flatMap_append]
  simp only [List.flatMap_cons, List.flatMap_nil, List.append_nil]
  rw [← List.append_assoc, List.take_left' rfl, List.drop_left' rfl]

theorem siz_le {l : List Cl} (h : siz l ≤ 256) : totL l ≤ 256 := by unfold siz at h; omega

def LPost3 (w : World) (x y z : Int) (e : Ending) (w' : World) : Prop := e = .returned (.tuple #[.int .i64 x, .int .i64 y, .int .i64 z]) ∧ Ext [] w w'

set_option maxRecDepth 100000 in
set_option maxHeartbeats 1000000 in
theorem place_any (ts : List Ty) (ta : Option Addr) (tn tc : Nat) (htn : ts.length = tn) (hS : Sound ts) (q ii : Nat) (w : World) (hT : Tab w ta ts) (hq : q < tn) (hi : ii < (parts (tyAt ts q)).length) :
    Calls Tryd.prog 21 #[.slice ta tn tc, .int .i64 q, .int .i64 ii] w (LPost3 w (offs ts q ii) (offs ts q (ii + 1)) ((parts (tyAt ts q)).getD ii 0)) := by
  have hF := (hS.2.1 q (by omega)).1
  obtain ⟨b, o, rfl, hat⟩ := hT.addr (by omega)
  obtain ⟨fa, fc, hty⟩ := hat q (by omega)
  have K2 := parts_any (tyAt ts q) fa fc w hty.f (fun h9 => by have := hF.2.2.2.2.1 h9; omega)
  unfold tyVal at K2
  obtain ⟨c0, c1, c2, c3, c4, _⟩ := hty
  have hps : parts (tyAt ts q) ≠ [] := fun e => by rw [e] at hi; simp at hi
  have hpl := parts_len hF
  have HB : Hid (∀ p ∈ parts (tyAt ts q), ∃ p' : Nat, p = p' ∧ p' < tn ∧ 0 ≤ (at' (ms ts) p).width ∧ (at' (ms ts) p).width ≤ 16) := fun p hp => by
    have hb := hF.below p hp
    have hf := sound_fit hS (i := p.toNat) (by omega)
    rw [show ((p.toNat : Nat) : Int) = p by omega] at hf
    exact ⟨p.toNat, by omega, by omega, by have := hf.1.w0; exact Int.le_trans (by omega) this, hf.2⟩
  have HOF : Hid (∀ k, offs ts q k = sumWidth (ms ts) ((parts (tyAt ts q)).take k)) := fun k => rfl
  have KW := fun (p : Nat) (hp : p < tn) u (hu : Ext [] w u) => widthOf_any ts (some ⟨b, o, none⟩) tn tc htn (p + 1) p (by omega) hp (fun j hj => hS.2.1 j (by omega)) (hS.2.1 p (by omega)).1 u (hT.keep0 hu)
  have hM : ∀ p, M ts p = at' (ms ts) p := fun p => rfl
  simp only [hM] at KW
  clear hT hat hF hS hM
  generalize parts (tyAt ts q) = ps at *
  have HBD : Hid (∀ k, k < ps.length → 0 ≤ offs ts q k ∧ offs ts q k ≤ 256 ∧ offs ts q (k + 1) = offs ts q k + (at' (ms ts) (ps.getD k 0)).width ∧ ∃ p' : Nat, ps.getD k 0 = p' ∧ p' < tn ∧ 0 ≤ (at' (ms ts) (ps.getD k 0)).width ∧ (at' (ms ts) (ps.getD k 0)).width ≤ 16) := fun k hk => by
    have hbd := sumWidth_bd (E := ms ts) (l := ps.take k) (fun p hp => by obtain ⟨_, _, _, h1, h2⟩ := HB.out p (List.mem_of_mem_take hp); exact ⟨h1, h2⟩)
    have hsn := sumWidth_snoc (ms ts) ps k hk
    rw [List.length_take] at hbd
    rw [HOF.out, HOF.out]
    exact ⟨hbd.1, by omega, hsn, HB.out _ (by rw [show ps.getD k 0 = ps[k] by simp [hk]]; exact List.getElem_mem _)⟩
  go_enter Tryd.func21, Tryd.ntmps21
  go_upto_region 3 with (go_at_call 20; refine K2.mono ?_; rintro e w2 ⟨ia, ic, rfl, hIo, hE2⟩; have HI2 := hid (own_vs hIo); have HE2 := hid hE2; clear hE2 hIo)
  clear K2 c0 c1 c2 c3 c4
  go_loopw [6, 10] (fun fv u wr => ∃ k : Nat, u = .int .i64 k ∧ k ≤ ii ∧ fv = .int .i64 (offs ts q k) ∧ Is wr ia ps ∧ Ext [] w wr) (fun _ u _ => (ii - (intOf u)).toNat)
  case atStart => exact ⟨0, rfl, by omega, by rw [HOF.out]; simp [sumWidth], HI2.out, HE2.out⟩
  case round =>
    obtain ⟨k, rfl, hk, rfl, hIk, hEk⟩ := hrel
    have HIk := hid hIk
    have HEk := hid hEk
    obtain ⟨ib, io, rfl, hcs⟩ := hIk.at_ hps
    clear hIk hEk
    have hck := hcs k (by omega)
    obtain ⟨b0, b1, b2, p, hp, hpn, b3, b4⟩ := HBD.out k (by omega)
    have K := KW p hpn wr HEk.out
    rw [hp] at hck b2 b3 b4
    by_cases hlt : k < ii
    · have hkl : (k : Int) < ii := by omega
      have hkl2 : k < ps.length := by omega
      have e1 : IntKind.wrap .i64 (offs ts q k + (at' (ms ts) (p : Int)).width) = offs ts q (k + 1) := by rw [IntKind.wrap_i64]; omega
      clear hcs KW b2
      generalize (at' (ms ts) (p : Int)).width = wd at *
      generalize ho1 : offs ts q (k + 1) = o1 at *
      have HO1 := hid ho1
      clear ho1
      generalize offs ts q k = o0 at *
      go_wp2_with (go_at_call 33; refine K.mono ?_; rintro e w3 ⟨rfl, hE3⟩)
      go_roundw
      case rel => exact ⟨k + 1, by go_num, by omega, by rw [HO1.out], Is.keep0 HIk.out hE3, HEk.out.trans hE3⟩
      case measure => simp [intOf]; omega
    · obtain rfl : k = ii := by omega
      have hkl : ¬ ((k : Int) < (k : Int)) := by omega
      have e1 : IntKind.wrap .i64 (offs ts q k + (at' (ms ts) (p : Int)).width) = offs ts q (k + 1) := by rw [IntKind.wrap_i64]; omega
      have hkl2 : k < ps.length := hi
      have K2 := fun (u : World) (hu : Ext [] wr u) => KW p hpn u (HEk.out.trans hu)
      have HP := hid hp
      clear hcs KW b2 K hp
      generalize (at' (ms ts) (p : Int)).width = wd at *
      generalize ho1 : offs ts q (k + 1) = o1 at *
      generalize ho0 : offs ts q k = o0 at *
      have HO1 := hid ho1
      have HO0 := hid ho0
      clear ho1 ho0
      go_wp2_with fail
      go_region_held3 (fun w' => w'.cell? ⟨ib, io + k, none⟩ = some (.int .i64 (p : Int)))
        (first | exact hE4.cell ((Ext.drew [] _).cell hck (by simp)) (by simp) | go_keep)
        (first | (go_at_call 33; refine (K2 _ (Ext.drew [] wr)).mono ?_; rintro e w4 ⟨rfl, hE4⟩))
      have HE4 := hid ((HEk.out.trans (Ext.drew [] wr)).trans hE4)
      go_wp2_with fail
      go_ret3
      exact ⟨by first | rfl | (rw [HP.out]; rfl) | (rw [HO0.out, HO1.out, HP.out]; rfl), HE4.out⟩


/-! ### equality of parts -/

theorem cmp_part {ts : List Ty} {q i : Nat} (hS : Sound ts) (hq : q < ts.length) (hi : i < (parts (tyAt ts q)).length) (hc : cmpT ts q = true) : cmpT ts ((parts (tyAt ts q)).getD i 0) = true := by
  have hF := (hS.2.1 q (by omega)).1
  have hps : parts (tyAt ts q) ≠ [] := fun e => by rw [e] at hi; simp at hi
  unfold cmpT at hc ⊢
  rw [made_of hF (by omega) hps] at hc
  cases hq2 : (M ts ((parts (tyAt ts q)).getD i 0)).cmp
  · have := allCmp_false (E := ms ts) hi hq2
    simp only at hc
    rw [this] at hc; cases hc
  · rfl

/-- What is equal is so in each part. -/
theorem eq_part {ts : List Ty} {d q i : Nat} {l m : List Cl} (h : (eqR ts d q l m).1 = true) (hi : i < (parts (tyAt ts q)).length) :
    ∃ k : Nat, (parts (tyAt ts q)).getD i 0 = k ∧ k < ts.length ∧ pb ts q i ≤ pb ts q (i + 1) ∧ pb ts q (i + 1) ≤ l.length ∧ pb ts q (i + 1) ≤ m.length ∧ offs ts q i = pb ts q i ∧ offs ts q (i + 1) = pb ts q (i + 1) ∧ eqR ts d k (partL ts q l i) (partL ts q m i) = (true, 0) := by
  unfold eqR at h
  split at h
  · rename_i h0
    obtain ⟨z1, z2, z3⟩ := vk2_zero h0
    obtain ⟨o1, o2, o3, o4, o5, o6⟩ := offs_facts z1 hi
    obtain ⟨_, _, _, o4', _, o6'⟩ := offs_facts z2 hi
    obtain ⟨hbz, hOk⟩ := vchk_zero z1
    obtain ⟨_, hOk'⟩ := vchk_zero z2
    obtain ⟨hS, q0, q1⟩ := bad_zero hbz
    have hF := (hS.2.1 q (by omega)).1
    have hk := kinds_part hS (by omega) hi
    have hpm : (parts (tyAt ts q)).getD i 0 ∈ parts (tyAt ts q) := by
      rw [show (parts (tyAt ts q)).getD i 0 = (parts (tyAt ts q))[i] by simp [hi]]; exact List.getElem_mem hi
    have hb := hF.below _ hpm
    have hcp := cmp_part hS (by omega) hi z3
    generalize hp : (parts (tyAt ts q)).getD i 0 = p at *
    obtain ⟨k, rfl⟩ : ∃ k : Nat, p = k := ⟨p.toNat, by omega⟩
    have hkt : k < ts.length := by omega
    have ok1 : ∀ x : List Cl, OkV ts d q x → pb ts q (i + 1) ≤ x.length → vchk ts d k (partL ts q x i) = 0 := fun x hx hle => by
      refine vchk_ok (bad_ok hS ⟨by omega, by omega⟩) ⟨?_, ?_⟩
      · have h2 := (totL_drop (x.take (pb ts q (i + 1))) (pb ts q i)).1
        have h3 := totL_take_le x (pb ts q (i + 1))
        have h4 := siz_le hx.1
        unfold siz partL
        omega
      · rw [← hk]; exact hx.2.sub hle
    have v1 := ok1 l hOk o4
    have v2 := ok1 m hOk' o4'
    have hv : vk2 ts d k (partL ts q l i) (partL ts q m i) = 0 := by
      unfold vk2 vkL; rw [if_pos v1]; unfold vkL; rw [if_pos v2]; unfold vkL; rw [if_pos hcp]
    refine ⟨k, rfl, hkt, by omega, o4, o4', o1, o2, ?_⟩
    unfold eqR
    rw [if_pos hv]
    cases d with
    | zero => rfl
    | succ d =>
      rw [eqV] at h ⊢
      refine eqL_yes _ _ _ (fun j hj => ?_)
      rw [← hk] at hj ⊢
      have hlk : l.length = (kinds ts q).length := okv_len hOk.2
      rw [sub_len (by omega)] at hj
      unfold partL
      rw [getD_sub (by omega), cAt_sub (by omega), cAt_sub (by omega)]
      exact eqL_all _ _ _ h (pb ts q i + j) (by omega)
  · simp at h

theorem vk2_symm (ts : List Ty) (d : Nat) (t : Int) (v w : List Cl) : vk2 ts d t v w = vk2 ts d t w v := by
  have h1 : ∀ x, vchk ts d t x = 0 ∨ vchk ts d t x = (if bad ts t = 0 then 1 else bad ts t) := fun x => by
    unfold vchk
    split
    · split
      · exact .inl rfl
      · exact .inr rfl
    · exact .inr rfl
  have hz : (if bad ts t = 0 then (1 : Int) else bad ts t) ≠ 0 := by
    split
    · omega
    · assumption
  unfold vk2 vkL vkL
  rcases h1 v with a | a <;> rcases h1 w with b | b
  · rw [if_pos a, if_pos b, if_pos b, if_pos a]
  · rw [if_pos a, if_neg (by rw [b]; exact hz), if_neg (by rw [b]; exact hz)]
  · rw [if_neg (by rw [a]; exact hz), if_pos b, if_neg (by rw [a]; exact hz)]
  · rw [if_neg (by rw [a]; exact hz), if_neg (by rw [b]; exact hz), a, b]
theorem eqR_symm (ts : List Ty) (d : Nat) (t : Int) (v w : List Cl) : eqR ts d t v w = eqR ts d t w v := by
  unfold eqR
  rw [vk2_symm, eqV_symm]
theorem eqR_trans {ts : List Ty} {d : Nat} {t : Int} {v w x : List Cl} (h1 : (eqR ts d t v w).1 = true) (h2 : (eqR ts d t w x).1 = true) : (eqR ts d t v x).1 = true := by
  unfold eqR at h1 h2 ⊢
  split at h1
  · rename_i z1
    split at h2
    · rename_i z2
      obtain ⟨a1, _, a3⟩ := vk2_zero z1
      obtain ⟨_, b2, _⟩ := vk2_zero z2
      rw [if_pos (by unfold vk2 vkL; rw [if_pos a1]; unfold vkL; rw [if_pos b2]; unfold vkL; rw [if_pos a3])]
      exact eqV_trans ts d t v w x h1 h2
    · simp at h2
  · simp at h1
theorem eqR_err {ts : List Ty} {d : Nat} {t : Int} {v w : List Cl} (h : (eqR ts d t v w).1 = true) : eqR ts d t v w = (true, 0) := by
  unfold eqR at h ⊢
  split at h
  · rename_i z
    rw [if_pos z]
    exact eqV_ok h
  · simp at h

end Go.Proofs.YtpjcbpgfbhlioaaDoor
