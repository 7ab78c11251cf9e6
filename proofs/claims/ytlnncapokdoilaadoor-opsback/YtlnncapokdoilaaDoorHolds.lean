/-
  The program's isIface, Holds and Unbox at an interface that holds a sound value; no statement is proved here.
-/
import Derived.Test.YtlnncapokdoilaaDoorBoxes
namespace Go.Proofs.YtlnncapokdoilaaDoor
open Go.RowKit

set_option maxRecDepth 100000 in
set_option maxHeartbeats 4000000 in
theorem isIface_any (ts : List Ty) (ta : Option Addr) (tn tc : Nat) (htn : ts.length = tn) (hc : tn ≤ tc) (d : Nat) (q : Nat) (a : Option Addr) (l : List Cl) (n c : Nat) (hn : l.length = n) (w : World) (hC : Cs d w a l) (hT : Tab w ta ts) (hG : Gl w) (hv : vchk ts d q l = 0) (hb : bxb (tyAt ts q).kind = true) :
    Calls Tryd.prog 26 #[.slice ta tn tc, boV q a n c] w (SayPost w (.bool true)) := by
  have K := fun u (hu : Ext [] w u) => pcheck_any ts ta tn tc htn hc d q a l _ c u (hC.keep0 hu) hn (hT.keep0 hu) (hG.keep0 hu)
  rw [hv] at K
  obtain ⟨hbad, hok⟩ := vchk_zero hv
  obtain ⟨hS, h0, h1⟩ := bad_zero hbad
  have hq1 : q < tn := by omega
  have hq2 : (q : Int) < tn := by omega
  obtain ⟨b, o, rfl, hat⟩ := hT.addr (by omega)
  obtain ⟨fa, fc, hty⟩ := hat q (by omega)
  have HTy : Hid (∀ u, Ext [] w u → TyAt u b (o + q * 5) (tyAt ts q) fa fc) := fun u hu => hty.keep0 hu
  have KB := fun u => opsBoxable_any (tyAt ts q) fa fc u
  rw [hb] at KB
  have hlen := hT.len
  have ew : wrap64 ((q : Int) + 1 - 1) = (q : Int) := by unfold wrap64; omega
  have ez : ((q : Int) + 1 == 0) = false := by simp; omega
  have ez2 : ¬ (q : Int) + 1 = 0 := by omega
  unfold tyVal at KB
  unfold boV
  have HE0 : Hid (Ext [] w (w.alloc (.cells #[.int .u64 0, .string ⟨#[]⟩, .int .i64 ((q : Int) + 1), .slice a n c] 28))) := Ext.alloc _ _ _
  have hb0 := heap_alloc_new w (.cells #[.int .u64 0, .string ⟨#[]⟩, .int .i64 ((q : Int) + 1), .slice a n c] 28)
  have HQ : Hid (∀ u, Ext [] (w.alloc (.cells #[.int .u64 0, .string ⟨#[]⟩, .int .i64 ((q : Int) + 1), .slice a n c] 28)) u → u.cell? ⟨w.heap.size, 2, none⟩ = some (.int .i64 ((q : Int) + 1))) := fun u hu => hu.cell (by rw [cell_of_row _ _ _ _ _ _ hb0]; rfl) (by simp)
  clear hat hty hC hT hG hv hbad hok hS hb hb0
  go_enter Tryd.func26, Tryd.ntmps26
  go_wp2_with (first
    | (go_at_call 18; refine (K _ HE0.out).mono ?_; clear K; rintro e w1 ⟨rfl, hE1⟩; have x2 := HQ.out w1 hE1; have hE1' := HE0.out.trans hE1; obtain ⟨c0, c1, c2, c3, c4, _⟩ := HTy.out w1 hE1'; replace hE1' := hid hE1'; clear hE1)
    | (go_at_call 19; refine (KB _).mono ?_; clear KB; rintro e w2 ⟨rfl, hE2⟩; have hE2' := hid (hE1'.out.trans hE2); clear hE2)
    | fail "no arm")
  go_ret
  exact ⟨rfl, hE2'.out⟩

/-- What Holds answers of an interface that holds a sound value of type q. -/
noncomputable def hoE (ts : List Ty) (t : Int) : Int := if bad ts t ≠ 0 then bad ts t else if bxb (tyAt ts t).kind = false then 3 else 0
noncomputable def hoB (ts : List Ty) (q t : Int) : Bool := decide (hoE ts t = 0) && q + 1 == t + 1
noncomputable def hoV (ts : List Ty) (q t : Int) : Value := .tuple #[.bool (hoB ts q t), .int .i64 (hoE ts t)]

set_option maxRecDepth 100000 in
set_option maxHeartbeats 4000000 in
theorem holds_any (ts : List Ty) (ta : Option Addr) (tn tc : Nat) (htn : ts.length = tn) (hc : tn ≤ tc) (d : Nat) (q : Nat) (a : Option Addr) (l : List Cl) (n c : Nat) (hn : l.length = n) (t : Int) (w : World) (hC : Cs d w a l) (hT : Tab w ta ts) (hG : Gl w) (hv : vchk ts d q l = 0) (hb : bxb (tyAt ts q).kind = true) :
    Calls Tryd.prog 13 #[.slice ta tn tc, .int .i64 t, boV q a n c] w (SayPost w (hoV ts q t)) := by
  have KI := fun u (hu : Ext [] w u) => isIface_any ts ta tn tc htn hc d q a l n c hn u (hC.keep0 hu) (hT.keep0 hu) (hG.keep0 hu) hv hb
  have KW := fun u (hu : Ext [] w u) => width_any ta ts tn tc t u (hT.keep0 hu) htn hc (hG.keep0 hu)
  have HE0 : Hid (Ext [] w (w.alloc (.cells #[.int .u64 0, .string ⟨#[]⟩, .int .i64 ((q : Int) + 1), .slice a n c] 28))) := Ext.alloc _ _ _
  have hb0 := heap_alloc_new w (.cells #[.int .u64 0, .string ⟨#[]⟩, .int .i64 ((q : Int) + 1), .slice a n c] 28)
  have HQ : Hid (∀ u, Ext [] (w.alloc (.cells #[.int .u64 0, .string ⟨#[]⟩, .int .i64 ((q : Int) + 1), .slice a n c] 28)) u → u.cell? ⟨w.heap.size, 0, none⟩ = some (.int .u64 0) ∧ u.cell? ⟨w.heap.size, 1, none⟩ = some (.string ⟨#[]⟩) ∧ u.cell? ⟨w.heap.size, 2, none⟩ = some (.int .i64 ((q : Int) + 1)) ∧ u.cell? ⟨w.heap.size, 3, none⟩ = some (.slice a n c)) := fun u hu => ⟨hu.cell (by rw [cell_of_row _ _ _ _ _ _ hb0]; rfl) (by simp), hu.cell (by rw [cell_of_row _ _ _ _ _ _ hb0]; rfl) (by simp), hu.cell (by rw [cell_of_row _ _ _ _ _ _ hb0]; rfl) (by simp), hu.cell (by rw [cell_of_row _ _ _ _ _ _ hb0]; rfl) (by simp)⟩
  unfold hoV hoB
  unfold boV at *
  clear hb0
  by_cases hbad : bad ts t = 0
  · obtain ⟨hS, h0, h1⟩ := bad_zero hbad
    obtain ⟨p, rfl⟩ : ∃ p : Nat, t = p := ⟨t.toNat, by omega⟩
    rw [hbad] at KW
    have hp1 : p < tn := by omega
    have hp2 : (p : Int) < tn := by omega
    obtain ⟨b, o, rfl, hat⟩ := hT.addr (by omega)
    obtain ⟨fa, fc, hty⟩ := hat p (by omega)
    have HTy : Hid (∀ u, Ext [] w u → TyAt u b (o + p * 5) (tyAt ts p) fa fc) := fun u hu => hty.keep0 hu
    have KB := fun u => opsBoxable_any (tyAt ts p) fa fc u
    unfold tyVal at KB
    have hlen := hT.len
    have ew : wrap64 ((p : Int) + 1) = (p : Int) + 1 := by unfold wrap64; omega
    generalize (mo ts (p : Int)).width = wd at *
    by_cases hbk : bxb (tyAt ts p).kind = false
    · have hE : hoE ts p = 3 := by unfold hoE; rw [if_neg (by simpa using hbad), if_pos hbk]
      rw [hE, show decide ((3 : Int) = 0) = false from rfl, Bool.false_and]
      rw [hbk] at KB
      clear hE hbk hat hty hC hT hG hv hb hS hbad
      go_enter Tryd.func13, Tryd.ntmps13
      go_wp2_with (first
        | (go_at_call 25; refine (KW _ HE0.out).mono ?_; clear KW; rintro e w1 ⟨rfl, hE1⟩; obtain ⟨x0, x1, x2, x3⟩ := HQ.out w1 hE1; have hE1' := hid (HE0.out.trans hE1); have hE1 := hid hE1)
        | (go_at_call 26; refine (KI _ hE1'.out).mono ?_; clear KI; rintro e w2 ⟨rfl, hE2⟩; have hE2' := hE1'.out.trans hE2; obtain ⟨c0, c1, c2, c3, c4, _⟩ := HTy.out w2 hE2'; replace hE2' := hid hE2'; clear hE2)
        | (go_at_call 19; refine (KB _).mono ?_; clear KB; rintro e w3 ⟨rfl, hE3⟩; have hE3' := hid (hE2'.out.trans hE3); clear hE3)
        | fail "no arm")
      go_ret2
      exact ⟨rfl, hE3'.out⟩
    · have hb1 : bxb (tyAt ts p).kind = true := by simpa using hbk
      have hE : hoE ts p = 0 := by unfold hoE; rw [if_neg (by simpa using hbad), if_neg hbk]
      rw [hE, show decide ((0 : Int) = 0) = true from rfl, Bool.true_and]
      rw [hb1] at KB
      clear hE hbk hat hty hC hT hG hv hb hS hbad hb1
      go_enter Tryd.func13, Tryd.ntmps13
      go_wp2_with (first
        | (go_at_call 25; refine (KW _ HE0.out).mono ?_; clear KW; rintro e w1 ⟨rfl, hE1⟩; obtain ⟨x0, x1, x2, x3⟩ := HQ.out w1 hE1; have hE1' := hid (HE0.out.trans hE1); have hE1 := hid hE1)
        | (go_at_call 26; refine (KI _ hE1'.out).mono ?_; clear KI; rintro e w2 ⟨rfl, hE2⟩; have hE2' := hE1'.out.trans hE2; obtain ⟨c0, c1, c2, c3, c4, _⟩ := HTy.out w2 hE2'; replace hE2' := hid hE2'; replace hE2 := hid (hE1.out.trans hE2))
        | (go_at_call 19; refine (KB _).mono ?_; clear KB; rintro e w3 ⟨rfl, hE3⟩; have hE3' := hid (hE2'.out.trans hE3); obtain ⟨_, _, y2, _⟩ := HQ.out w3 (hE2.out.trans hE3); clear hE3)
        | fail "no arm")
      go_ret2
      exact ⟨rfl, hE3'.out⟩
  · have hE : hoE ts t = bad ts t := by unfold hoE; rw [if_pos hbad]
    rw [hE, decide_eq_false hbad, Bool.false_and]
    have hb2 : (bad ts t != 0) = true := by simpa using hbad
    clear hE hbad hC hT hG hv hb KI HQ
    generalize bad ts t = bd at *
    generalize (mo ts t).width = wd at *
    go_enter Tryd.func13, Tryd.ntmps13
    go_wp2_with (first | (go_at_call 25; refine (KW _ HE0.out).mono ?_; clear KW; rintro e w1 ⟨rfl, hE1⟩; have hE1' := hid (HE0.out.trans hE1); clear hE1) | fail "no arm")
    go_ret2
    exact ⟨rfl, hE1'.out⟩

/-- What Unbox answers there. -/
noncomputable def unE (ts : List Ty) (q t : Int) : Int := if hoE ts t ≠ 0 then hoE ts t else if hoB ts q t = false then 10 else 0
def UnPost (w : World) (ts : List Ty) (d : Nat) (q t : Int) (l : List Cl) (e : Ending) (w' : World) : Prop :=
  Ext [] w w' ∧ ((unE ts q t ≠ 0 ∧ e = .returned (.tuple #[.slice none 0 0, .int .i64 (unE ts q t)])) ∨
    (unE ts q t = 0 ∧ ∃ a1 c1, e = .returned (.tuple #[.slice a1 l.length c1, .int .i64 0]) ∧ l.length ≤ c1 ∧ Co (fun b => w.heap.size ≤ b) d w' a1 l))
set_option maxRecDepth 100000 in
set_option maxHeartbeats 4000000 in
theorem unbox_any (ts : List Ty) (ta : Option Addr) (tn tc : Nat) (htn : ts.length = tn) (hc : tn ≤ tc) (d : Nat) (q : Nat) (a : Option Addr) (l : List Cl) (n c : Nat) (hn : l.length = n) (t : Int) (w : World) (hC : Cs d w a l) (hT : Tab w ta ts) (hG : Gl w) (hv : vchk ts d q l = 0) (hb : bxb (tyAt ts q).kind = true) :
    Calls Tryd.prog 11 #[.slice ta tn tc, .int .i64 t, boV q a n c] w (UnPost w ts d q t l) := by
  have KH := fun u (hu : Ext [] w u) => holds_any ts ta tn tc htn hc d q a l n c hn t u (hC.keep0 hu) (hT.keep0 hu) (hG.keep0 hu) hv hb
  have KC := fun u (hu : Ext [] w u) => copied_any d a l _ c u (hC.keep0 hu) (okv_zb (vchk_zero hv).2.2) hn
  have HE0 : Hid (Ext [] w (w.alloc (.cells #[.int .u64 0, .string ⟨#[]⟩, .int .i64 ((q : Int) + 1), .slice a n c] 28))) := Ext.alloc _ _ _
  have hb0 := heap_alloc_new w (.cells #[.int .u64 0, .string ⟨#[]⟩, .int .i64 ((q : Int) + 1), .slice a n c] 28)
  have HQ : Hid (∀ u, Ext [] (w.alloc (.cells #[.int .u64 0, .string ⟨#[]⟩, .int .i64 ((q : Int) + 1), .slice a n c] 28)) u → u.cell? ⟨w.heap.size, 3, none⟩ = some (.slice a n c)) := fun u hu => hu.cell (by rw [cell_of_row _ _ _ _ _ _ hb0]; rfl) (by simp)
  unfold hoV at KH
  unfold boV at *
  clear hb0 hC hT hG hv hb
  by_cases h1 : hoE ts t = 0
  · rw [h1] at KH
    cases h2 : hoB ts q t with
    | false =>
      have hU : Hid (unE ts q t = 10) := by show unE ts q t = 10; unfold unE; rw [if_neg (by simpa using h1), if_pos h2]
      rw [h2] at KH
      clear h1 h2
      go_enter Tryd.func11, Tryd.ntmps11
      go_wp2_with (first | (go_at_call 13; refine (KH _ HE0.out).mono ?_; clear KH; rintro e w1 ⟨rfl, hE1⟩; have hE1' := hid (HE0.out.trans hE1); clear hE1) | fail "no arm")
      go_ret2
      exact ⟨hE1'.out, .inl ⟨by rw [hU.out]; decide, by rw [hU.out]; rfl⟩⟩
    | true =>
      have hU : Hid (unE ts q t = 0) := by show unE ts q t = 0; unfold unE; rw [if_neg (by simpa using h1), if_neg (by simp [h2])]
      rw [h2] at KH
      clear h1 h2
      go_enter Tryd.func11, Tryd.ntmps11
      go_wp2_with (first
        | (go_at_call 13; refine (KH _ HE0.out).mono ?_; clear KH; rintro e w1 ⟨rfl, hE1⟩; have x3 := HQ.out w1 hE1; have hE1' := hid (HE0.out.trans hE1); clear hE1)
        | (go_at_call 21; refine (KC _ hE1'.out).mono ?_; clear KC; rintro e w2 ⟨a1, c1, rfl, hac, hCo, hE2⟩; have hE2' := hid (hE1'.out.trans hE2); replace hCo := hid hCo; replace hac := hid hac; clear hE2)
        | fail "no arm")
      go_ret2
      exact ⟨hE2'.out, .inr ⟨hU.out, a1, c1, by rw [hn]; rfl, by rw [hn]; exact hac.out, hCo.out.imp (fun b _ hp => by have := hE1'.out.size; omega)⟩⟩
  · have hU : Hid (unE ts q t = hoE ts t) := by show unE ts q t = hoE ts t; unfold unE; rw [if_pos h1]
    have HH := hid h1
    have h3 : (hoE ts t != 0) = true := by simpa using h1
    clear h1 KC HQ
    generalize hoB ts q t = hb at *
    generalize hoE ts t = he at *
    go_enter Tryd.func11, Tryd.ntmps11
    go_wp2_with (first | (go_at_call 13; refine (KH _ HE0.out).mono ?_; clear KH; rintro e w1 ⟨rfl, hE1⟩; have hE1' := hid (HE0.out.trans hE1); clear hE1) | fail "no arm")
    go_ret2
    exact ⟨hE1'.out, .inl ⟨by rw [hU.out]; exact HH.out, by rw [hU.out]; rfl⟩⟩
end Go.Proofs.YtlnncapokdoilaaDoor
