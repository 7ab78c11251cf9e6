/-
  The program's Part; no statement is proved here.
-/
import Derived.Test.YtfabhhmeanpmhaaDoorFind
namespace Go.Proofs.YtfabhhmeanpmhaaDoor
open Go.RowKit

/-- The place where part i begins. -/
def pb (ts : List Ty) (t : Int) (i : Nat) : Nat := (offs ts t i).toNat
/-- Part i of a value. -/
def partL (ts : List Ty) (t : Int) (l : List Cl) (i : Nat) : List Cl := (l.take (pb ts t (i + 1))).drop (pb ts t i)

theorem offs_facts {ts : List Ty} {d q : Nat} {l : List Cl} {i : Nat} (hv : vchk ts d q l = 0) (hi : i < (parts (tyAt ts q)).length) :
    offs ts q i = pb ts q i ∧ offs ts q (i + 1) = pb ts q (i + 1) ∧ pb ts q i < pb ts q (i + 1) ∧ pb ts q (i + 1) ≤ l.length ∧ 0 < l.length ∧ (partL ts q l i).length = pb ts q (i + 1) - pb ts q i := by
  obtain ⟨hbz, hOk⟩ := vchk_zero hv
  obtain ⟨hS, h0, h1⟩ := bad_zero hbz
  have hF := (hS.2.1 q (by omega)).1
  have hps : parts (tyAt ts q) ≠ [] := fun e => by rw [e] at hi; simp at hi
  have hw : ∀ p ∈ parts (tyAt ts q), 1 ≤ (at' (ms ts) p).width ∧ (at' (ms ts) p).width ≤ 16 := fun p hp => by
    have hb := hF.below p hp
    have hf := sound_fit hS (i := p.toNat) (by omega)
    rw [show ((p.toNat : Nat) : Int) = p by omega] at hf
    exact ⟨hf.1.w0, hf.2⟩
  have hw' : ∀ p ∈ parts (tyAt ts q), 0 ≤ (at' (ms ts) p).width ∧ (at' (ms ts) p).width ≤ 16 := fun p hp => ⟨by have := (hw p hp).1; omega, (hw p hp).2⟩
  have hlen : (l.length : Int) = sumWidth (ms ts) (parts (tyAt ts q)) := by
    have h2 : l.length = (kinds ts q).length := by
      cases d with
      | zero => exact hOk.2
      | succ d => exact hOk.2.1
    have h3 := kinds_len hS.2.1 (q + 1) q (by omega) (by omega) (by omega)
    rw [made_of hF (by omega) hps] at h3
    rw [h2]; exact h3
  have hl1 : 0 < l.length := by
    have h2 : l.length = (kinds ts q).length := by
      cases d with
      | zero => exact hOk.2
      | succ d => exact hOk.2.1
    have h3 := kinds_len hS.2.1 (q + 1) q (by omega) (by omega) (by omega)
    have h4 := (sound_fit hS (i := q) (by omega)).1.w0
    omega
  have hb0 := sumWidth_bd (E := ms ts) (l := (parts (tyAt ts q)).take i) (fun p hp => hw' p (List.mem_of_mem_take hp))
  have hsn := sumWidth_snoc (ms ts) (parts (tyAt ts q)) i hi
  have hwi := hw ((parts (tyAt ts q)).getD i 0) (by rw [show (parts (tyAt ts q)).getD i 0 = (parts (tyAt ts q))[i] by simp [hi]]; exact List.getElem_mem _)
  have hdr := sumWidth_bd (E := ms ts) (l := (parts (tyAt ts q)).drop (i + 1)) (fun p hp => hw' p (List.mem_of_mem_drop hp))
  have hap := sumWidth_append (ms ts) ((parts (tyAt ts q)).take (i + 1)) ((parts (tyAt ts q)).drop (i + 1))
  rw [List.take_append_drop] at hap
  have e1 : offs ts q i = sumWidth (ms ts) ((parts (tyAt ts q)).take i) := rfl
  have e2 : offs ts q (i + 1) = sumWidth (ms ts) ((parts (tyAt ts q)).take (i + 1)) := rfl
  have e3 : pb ts q i = (offs ts q i).toNat := rfl
  have e4 : pb ts q (i + 1) = (offs ts q (i + 1)).toNat := rfl
  refine ⟨by omega, by omega, by omega, by omega, hl1, ?_⟩
  unfold partL
  rw [List.length_drop, List.length_take]
  omega

def QPost (w : World) (d : Nat) (l : List Cl) (err : Int) (e : Ending) (w' : World) : Prop :=
  ∃ a c, e = .returned (.tuple #[.slice a l.length c, .int .i64 err]) ∧ l.length ≤ c ∧ Co (fun b => w.heap.size ≤ b) d w' a l ∧ Ext [] w w'

set_option maxRecDepth 100000 in
set_option maxHeartbeats 400000 in
theorem part_bad (ts : List Ty) (ta : Option Addr) (tn tc : Nat) (htn : ts.length = tn) (hc : tn ≤ tc) (d : Nat) (t i : Int) (a : Option Addr) (l : List Cl) (n c : Nat) (w : World) (hC : Cs d w a l) (hn : l.length = n) (hT : TabC w ta ts) (hG : Gl w) (hb : fchk ts d t l i ≠ 0) :
    Calls Tryd.prog 21 #[.slice ta tn tc, .int .i64 t, .slice a n c, .int .i64 i] w (QPost w d [] (fchk ts d t l i)) := by
  have K := find_bad ts ta tn tc htn hc d t i a l n c w hC hn hT hG hb
  have hb2 : (fchk ts d t l i != 0) = true := by simpa using hb
  generalize fchk ts d t l i = er at *
  clear hC hT hG
  go_enter Tryd.func21, Tryd.ntmps21
  go_wp2_with (go_at_call 43; refine K.mono ?_; rintro e w1 ⟨rfl, hE1⟩)
  go_ret2
  exact ⟨none, 0, rfl, Nat.le_refl _, Co.nil _ _ _ _, hE1.trans (Ext.alloc _ _ _)⟩

set_option maxRecDepth 100000 in
set_option maxHeartbeats 400000 in
theorem part_ok (ts : List Ty) (ta : Option Addr) (tn tc : Nat) (htn : ts.length = tn) (hc : tn ≤ tc) (d q ii : Nat) (a : Option Addr) (l : List Cl) (n c : Nat) (w : World) (hC : Cs d w a l) (hn : l.length = n) (hnc : n ≤ c) (hT : TabC w ta ts) (hG : Gl w) (hv : vchk ts d q l = 0) (hi : ii < (parts (tyAt ts q)).length) :
    Calls Tryd.prog 21 #[.slice ta tn tc, .int .i64 q, .slice a n c, .int .i64 ii] w (QPost w d (partL ts q l ii) 0) := by
  have K := find_ok ts ta tn tc htn hc d q ii a l n c w hC hn hT hG hv hi
  obtain ⟨o1, o2, o3, o4, o5, o6⟩ := offs_facts hv hi
  rw [o1, o2] at K
  obtain ⟨d', b, o, hd, rfl, _⟩ := hC.at_ o5
  have hsub := hC.sub (Nat.le_of_lt o3) o4
  have K2 := fun u (hu : Ext [] w u) => clone_any d (some ⟨b, o + pb ts q ii * 4, none⟩) (partL ts q l ii) (pb ts q (ii + 1) - pb ts q ii) (c - pb ts q ii) u (hsub.keep0 hu) o6
  have HO6 := hid o6
  generalize partL ts q l ii = pl at *
  generalize (parts (tyAt ts q)).getD ii 0 = kp at *
  generalize pb ts q ii = bg at *
  generalize pb ts q (ii + 1) = en at *
  have h1 : (bg : Int) ≤ en := by omega
  have h2 : (en : Int) ≤ c := by omega
  have h3 : bg < c := by omega
  have h4 : ¬ c = bg := by omega
  have h5 : ¬ c - bg = 0 := by omega
  clear hC hT hG hv hi hsub hd o1 o2 o6
  go_enter Tryd.func21, Tryd.ntmps21
  go_wp2_with (first | (go_at_call 43; refine K.mono ?_; rintro e w1 ⟨rfl, hE1⟩; have HE2 := hid (hE1.trans (Ext.alloc [] w1 (.cells #[.int .i64 kp, .int .i64 (bg : Int), .int .i64 (en : Int)] 72))); clear hE1) | (go_at_call 44; refine (K2 _ HE2.out).mono ?_; rintro e w2 ⟨a2, c2, rfl, hc2, hCo, hE3⟩))
  go_ret2
  rw [← HO6.out] at *
  exact ⟨a2, c2, rfl, hc2, hCo.imp fun x _ hx => Nat.le_trans HE2.out.size hx, HE2.out.trans hE3⟩

end Go.Proofs.YtfabhhmeanpmhaaDoor
