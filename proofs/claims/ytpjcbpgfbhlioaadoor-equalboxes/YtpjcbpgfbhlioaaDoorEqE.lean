/-
  The program's hash of cells and values; no statement is proved here.
-/
import Derived.Test.YtpjcbpgfbhlioaaDoorEqD
import Derived.Deep.RegionLaw
namespace Go.Proofs.YtpjcbpgfbhlioaaDoor
open Go.RowKit

def HvPost (w : World) (p : Nat) (tv : Value) (salt : Int) (o : Option Int) (e : Ending) (w' : World) : Prop := e = .returned (.bool o.isSome) ∧ ∃ s2, Hsh w' p tv salt s2 ∧ (∀ s', o = some s' → s2 = s') ∧ Ext [p] w w'

/-- The hash of values of this depth. -/
def HsAt (ts : List Ty) (ta : Option Addr) (tn tc d : Nat) (w0 : World) (p : Nat) (salt : Int) : Prop := ∀ (t : Nat) (a : Option Addr) (l : List Cl) (n c : Nat) (w : World) (s : Int), Ext [] w0 w → t < tn → Hsh w p (.slice ta tn tc) salt s → Cs d w0 a l → l.length = n → Okv ts d (kinds ts t) l →
  Calls Tryd.prog 31 #[.pointer (some ⟨p, 0, none⟩), .int .i64 t, .slice a n c] w (HvPost w p (.slice ta tn tc) salt (hsV ts salt d t l s))

theorem u64_nat {t : Int} (h0 : 0 ≤ t) (h1 : t < 9223372036854775808) : IntKind.u64.wrap t = t := by rw [IntKind.wrap_u64]; omega

set_option maxRecDepth 100000 in
set_option maxHeartbeats 4000000 in
theorem held_any (ts : List Ty) (ta : Option Addr) (tn tc : Nat) (htn : ts.length = tn) (hc : tn ≤ tc) (hS : Sound ts) (d : Nat) (w0 : World) (hT : Tab w0 ta ts) (hG : Gl w0) (p : Nat) (hp : w0.heap.size ≤ p) (salt : Int) (HR : HsAt ts ta tn tc d w0 p salt) (x : Cl) (ba : Option Addr) (bc : Nat) (hx : Bxd ts d w0 x ba) (s : Int) (w : World) (hE : Ext [] w0 w) (hH : Hsh w p (.slice ta tn tc) salt s) :
    Calls Tryd.prog 61 #[.pointer (some ⟨p, 0, none⟩), clV x ba bc] w (HvPost w p (.slice ta tn tc) salt (hsC ts (hsV ts salt d) salt 7 x s)) := by
  have e7 : hsC ts (hsV ts salt d) salt 7 x s = if x.t = 0 then some (foldI s x.t) else if cmpT ts (x.t - 1) = false then none else hsV ts salt d (x.t - 1) x.box (foldI s x.t) := by
    unfold hsC; rw [if_neg (by omega), if_neg (by omega), if_pos rfl]
  rw [e7]
  clear e7
  unfold clV
  have ht : 0 ≤ x.t ∧ x.t < 9223372036854775808 := by
    by_cases h0 : x.t = 0
    · omega
    · have hb := (hx.ok h0).1
      have h1 := hb.1
      have h2 := hb.2.1
      have := hT.len
      omega
  have hw := u64_nat ht.1 ht.2
  have HA : Hid (Ext [] w (w.alloc (.cells #[.int .u64 x.n, .string x.s, .int .i64 x.t, .slice ba x.box.length bc] 49))) := Ext.alloc _ _ _
  have hpl := hH.lt
  have KF := fold_any p (.slice ta tn tc) salt s x.t _ (hH.keep HA.out (by simp))
  have HZ : Hid (∀ u, Ext [p] (w.alloc (.cells #[.int .u64 x.n, .string x.s, .int .i64 x.t, .slice ba x.box.length bc] 49)) u → u.cell? ⟨w.heap.size, 2, none⟩ = some (.int .i64 x.t) ∧ u.cell? ⟨w.heap.size, 3, none⟩ = some (.slice ba x.box.length bc)) := fun u hu => by
    have hb := heap_alloc_new w (.cells #[.int .u64 x.n, .string x.s, .int .i64 x.t, .slice ba x.box.length bc] 49)
    exact ⟨hu.cell (by rw [cell_of_row _ _ _ _ _ _ hb]; rfl) (by simp; omega), hu.cell (by rw [cell_of_row _ _ _ _ _ _ hb]; rfl) (by simp; omega)⟩
  generalize foldI s x.t = s1 at *
  by_cases h0 : x.t = 0
  · rw [if_pos h0]
    have b0 : (x.t == 0) = true := by simpa using h0
    clear hT hG HR hx h0 ht hE hH
    generalize x.box.length = xl at *
    generalize x.t = xt at *
    go_enter Tryd.func61, Tryd.ntmps61
    go_wp2_with (first | (go_at_call 62; refine KF.mono ?_; clear KF; rintro e w1 ⟨rfl, hH1, hE1⟩; obtain ⟨z2, z3⟩ := HZ.out w1 hE1; replace hH1 := hid hH1; replace hE1 := hid hE1) | fail "no arm")
    go_ret
    exact ⟨rfl, s1, hH1.out, fun s' h => by cases h; rfl, (HA.out.mono (by simp)).trans hE1.out⟩
  · rw [if_neg h0]
    have b0 : (x.t == 0) = false := by simpa using h0
    obtain ⟨hb, hok⟩ := hx.ok h0
    obtain ⟨q, hq⟩ : ∃ q : Nat, x.t = (q : Int) + 1 := ⟨(x.t - 1).toNat, by omega⟩
    have hqn : q < tn := by have := hb.2.1; omega
    have e1 : IntKind.wrap .i64 (x.t - 1) = q := by rw [IntKind.wrap_i64]; omega
    have hbd := boxable_bad hS hb
    rw [show x.t - 1 = (q : Int) by omega] at hok hbd ⊢
    have K1 : Hid (∀ u, Ext [] w0 u → Calls Tryd.prog 42 #[.slice ta tn tc, .int .i64 q] u (SayPost u (.bool (cmpT ts q)))) := fun u hu => compared_any ta ts tn tc q u (hT.keep0 hu) htn hc (hG.keep0 hu) hbd
    have K2 : Hid (∀ u s, Ext [] w0 u → Hsh u p (.slice ta tn tc) salt s → Calls Tryd.prog 31 #[.pointer (some ⟨p, 0, none⟩), .int .i64 q, .slice ba x.box.length bc] u (HvPost u p (.slice ta tn tc) salt (hsV ts salt d q x.box s))) := fun u s hu hs => HR q ba x.box _ bc u s hu hqn hs hx.cs rfl hok
    have HE := hid hE
    clear hT hG HR hx h0 ht hE hH hok hbd hb hq
    have K2a := fun u => K2.out u s1
    generalize cmpT ts q = cm at *
    generalize hsV ts salt d q x.box s1 = r at *
    clear K2
    generalize x.box.length = xl at *
    generalize x.t = xt at *
    have HP : Hid (∀ u v : World, Ext [] w0 u → Ext [p] u v → Ext [] w0 v) := fun u v h1 h2 => h1.on h2 (by simpa using hp)
    go_enter Tryd.func61, Tryd.ntmps61
    go_upto_region 4 with (first | (go_at_call 62; refine KF.mono ?_; clear KF; rintro e w1 ⟨rfl, hH1, hE1⟩; obtain ⟨z2, z3⟩ := HZ.out w1 hE1; replace hH1 := hid hH1; replace hE1 := hid hE1) | fail "no arm")
    have HE1 := hid (HP.out _ w1 (HE.out.trans HA.out) hE1.out)
    have c0 := hH1.out.c0
    have HEp := hid ((HA.out.mono (T := [p]) (by simp)).trans hE1.out)
    have hzp : Hid (w.heap.size ≠ p) := by show _ ≠ _; omega
    clear HZ hE1
    generalize w.heap.size = z at *
    cases cm
    · rw [if_pos rfl]
      have K1a : Hid (∀ u, Ext [] w1 u → Calls Tryd.prog 42 #[.slice ta tn tc, .int .i64 q] u (SayPost u (.bool false))) := fun u hu => K1.out u (HE1.out.trans hu)
      clear K1 K2a
      refine wp_region_held_drew (S := fun u => u.cell? ⟨p, 0, none⟩ = some (.slice ta tn tc) ∧ u.cell? ⟨z, 2, none⟩ = some (.int .i64 xt) ∧ u.cell? ⟨z, 3, none⟩ = some (.slice ba xl bc)) (by kernel_rfl) ?_ (fun hHeld => ?_)
      · exact ⟨(Ext.drew [] _).cell c0 (by simp), (Ext.drew [] _).cell z2 (by simp), (Ext.drew [] _).cell z3 (by simp)⟩
      refine wpAnyH_take (i := 0) (v := ?_) rfl (by kernel_rfl) (by kernel_rfl) (by kernel_rfl) (fun _ _ _ h => h) (Or.inl ⟨by rfl, ?_⟩) (by assumption) ?_
      rotate_left
      · (intro u hSw; (try dsimp only at hSw); go_simp; try (with_reducible rfl))
      refine wpAnyH_take (i := 1) (v := ?_) rfl (by kernel_rfl) (by kernel_rfl) (by kernel_rfl) (fun _ _ _ h => h) (Or.inl ⟨by rfl, ?_⟩) (by assumption) ?_
      rotate_left
      · (intro u hSw; (try dsimp only at hSw); go_simp; try (with_reducible rfl))
      refine wpAnyH_take (i := 2) (v := ?_) rfl (by kernel_rfl) (by kernel_rfl) (by kernel_rfl) (fun _ _ _ h => h) (Or.inl ⟨by rfl, ?_⟩) (by assumption) ?_
      rotate_left
      · (intro u hSw; (try dsimp only at hSw); go_simp; try (with_reducible rfl))
      refine wpAnyH_take (i := 3) (v := ?_) rfl (by kernel_rfl) (by kernel_rfl) (by kernel_rfl) (fun _ _ _ h => h) (Or.inl ⟨by rfl, ?_⟩) (by assumption) ?_
      rotate_left
      · (intro u hSw; (try dsimp only at hSw); go_simp; try (with_reducible rfl))
      refine wpAnyH_take (i := 4) (v := ?_) rfl (by kernel_rfl) (by kernel_rfl) (by kernel_rfl) (fun _ _ _ h => h) (Or.inl ⟨by rfl, ?_⟩) (by assumption) ?_
      rotate_left
      · (intro u hSw; (try dsimp only at hSw); go_simp; try (with_reducible rfl))
      refine wpAnyH_take (i := 5) (v := ?_) rfl (by kernel_rfl) (by kernel_rfl) (by kernel_rfl) (fun _ _ _ h => h) (Or.inl ⟨by rfl, ?_⟩) (by assumption) ?_
      rotate_left
      · (intro u hSw; (try dsimp only at hSw); go_simp; try (with_reducible rfl))
      refine wpAnyH_take (i := 6) (v := ?_) rfl (by kernel_rfl) (by kernel_rfl) (by kernel_rfl) (fun _ _ _ h => h) (Or.inl ⟨by rfl, ?_⟩) (by assumption) ?_
      rotate_left
      · (intro u hSw; (try dsimp only at hSw); go_simp; try (with_reducible rfl))
      refine wpAnyH_ready (rs := [7]) (by kernel_rfl) (by simp) (AllReadyH.cons rfl (fun K hK => ?_) AllReadyH.nil)
      go_simp
      go_at_call 42; refine (K1a.out _ (Ext.drew [] _)).mono ?_; rintro e w2 ⟨rfl, hE2⟩; go_wp2_with fail
      refine hK.out _ _ ?_ (fun hHeld => ?_)
      · exact ⟨hE2.cell ((Ext.drew [] _).cell c0 (by simp)) (by simp), hE2.cell ((Ext.drew [] _).cell z2 (by simp)) (by simp), hE2.cell ((Ext.drew [] _).cell z3 (by simp)) (by simp)⟩
      clear hK K
      refine wpAnyH_take (i := 8) (v := ?_) rfl (by kernel_rfl) (by kernel_rfl) (by kernel_rfl) (fun _ _ _ h => h) (Or.inl ⟨by rfl, ?_⟩) (by assumption) ?_
      rotate_left
      · (intro u hSw; (try dsimp only at hSw); go_simp; try (with_reducible rfl))
      refine wpAnyH_take (i := 9) (v := undef) rfl (by kernel_rfl) (by kernel_rfl) (by kernel_rfl) (fun _ _ _ h => h) (Or.inr ⟨by rfl, rfl⟩) (by assumption) ?_
      refine wpAnyH_take (i := 10) (v := undef) rfl (by kernel_rfl) (by kernel_rfl) (by kernel_rfl) (fun _ _ _ h => h) (Or.inr ⟨by rfl, rfl⟩) (by assumption) ?_
      refine wpAnyH_take (i := 11) (v := undef) rfl (by kernel_rfl) (by kernel_rfl) (by kernel_rfl) (fun _ _ _ h => h) (Or.inr ⟨by rfl, rfl⟩) (by assumption) ?_
      refine wpAnyH_take (i := 12) (v := undef) rfl (by kernel_rfl) (by kernel_rfl) (by kernel_rfl) (fun _ _ _ h => h) (Or.inr ⟨by rfl, rfl⟩) (by assumption) ?_
      refine wpAnyH_take (i := 13) (v := undef) rfl (by kernel_rfl) (by kernel_rfl) (by kernel_rfl) (fun _ _ _ h => h) (Or.inr ⟨by rfl, rfl⟩) (by assumption) ?_
      refine wpAnyH_take (i := 14) (v := undef) rfl (by kernel_rfl) (by kernel_rfl) (by kernel_rfl) (fun _ _ _ h => h) (Or.inr ⟨by rfl, rfl⟩) (by assumption) ?_
      refine wpAnyH_take (i := 15) (v := undef) rfl (by kernel_rfl) (by kernel_rfl) (by kernel_rfl) (fun _ _ _ h => h) (Or.inr ⟨by rfl, rfl⟩) (by assumption) ?_
      refine wpAnyH_take (i := 16) (v := ?_) rfl (by kernel_rfl) (by kernel_rfl) (by kernel_rfl) (fun _ _ _ h => h) (Or.inl ⟨by rfl, ?_⟩) (by assumption) ?_
      rotate_left
      · (intro u hSw; (try dsimp only at hSw); go_simp; try (with_reducible rfl))
      refine wpAnyH_take (i := 17) (v := ?_) rfl (by kernel_rfl) (by kernel_rfl) (by kernel_rfl) (fun _ _ _ h => h) (Or.inl ⟨by rfl, ?_⟩) (by assumption) ?_
      rotate_left
      · (intro u hSw; (try dsimp only at hSw); go_simp; try (with_reducible rfl))
      refine wpAnyH_done (by kernel_rfl) ?_ _
      have H2 := hid ((Ext.drew [] w1).trans hE2)
      clear hE2
      go_wp2_with fail
      go_ret
      exact ⟨rfl, s1, hH1.out.keep H2.out (by simp), (fun s' h => by cases h), HEp.out.trans (H2.out.mono (by simp))⟩
    · rw [if_neg (by simp)]
      have K1a : Hid (∀ u, Ext [] w1 u → Calls Tryd.prog 42 #[.slice ta tn tc, .int .i64 q] u (SayPost u (.bool true))) := fun u hu => K1.out u (HE1.out.trans hu)
      have K3 : Hid (∀ u, Ext [] w1 u → Calls Tryd.prog 31 #[.pointer (some ⟨p, 0, none⟩), .int .i64 q, .slice ba xl bc] u (HvPost u p (.slice ta tn tc) salt r)) := fun u hu => K2a u (HE1.out.trans hu) (hH1.out.keep hu (by simp))
      have HZp : Hid (∀ u v x, Ext [p] u v → u.cell? ⟨z, 2, none⟩ = some x → v.cell? ⟨z, 2, none⟩ = some x) := fun u v x h1 h2 => h1.cell h2 (by simpa using hzp.out)
      have HZq : Hid (∀ u v x, Ext [p] u v → u.cell? ⟨z, 3, none⟩ = some x → v.cell? ⟨z, 3, none⟩ = some x) := fun u v x h1 h2 => h1.cell h2 (by simpa using hzp.out)
      clear K1 K2a
      first
        | (go_region_held3 (fun u => u.cell? ⟨p, 0, none⟩ = some (.slice ta tn tc) ∧ u.cell? ⟨z, 2, none⟩ = some (.int .i64 xt) ∧ u.cell? ⟨z, 3, none⟩ = some (.slice ba xl bc)) (first | exact ⟨hH3.c0, HZp.out _ _ _ hE3 (hE2.cell ((Ext.drew [] _).cell z2 (by simp)) (by simp)), HZq.out _ _ _ hE3 (hE2.cell ((Ext.drew [] _).cell z3 (by simp)) (by simp))⟩ | exact ⟨hE2.cell ((Ext.drew [] _).cell c0 (by simp)) (by simp), hE2.cell ((Ext.drew [] _).cell z2 (by simp)) (by simp), hE2.cell ((Ext.drew [] _).cell z3 (by simp)) (by simp)⟩ | go_keep)
            (first | (go_at_call 42; refine (K1a.out _ (Ext.drew [] _)).mono ?_; rintro e w2 ⟨rfl, hE2⟩) | (go_at_call 31; refine (K3.out _ ((Ext.drew [] _).trans hE2)).mono ?_; rintro e w3 ⟨rfl, s3, hH3, hs3, hE3⟩) | fail "no arm"))
        | fail "no region"
      have H2 := hid ((Ext.drew [] w1).trans hE2)
      have H3 := hid hH3
      have H3s := hid hs3
      have H3e := hid hE3
      clear hE2 hH3 hs3 hE3
      go_wp2_with fail
      go_ret
      exact ⟨rfl, s3, H3.out, H3s.out, (HEp.out.trans (H2.out.mono (by simp))).trans H3e.out⟩

set_option maxRecDepth 100000 in
set_option maxHeartbeats 4000000 in
theorem hcell_any (ts : List Ty) (ta : Option Addr) (tn tc : Nat) (htn : ts.length = tn) (hc : tn ≤ tc) (hS : Sound ts) (d : Nat) (w0 : World) (hT : Tab w0 ta ts) (hG : Gl w0) (p : Nat) (hp : w0.heap.size ≤ p) (salt : Int) (HR : HsAt ts ta tn tc d w0 p salt) (k : Int) (x : Cl) (hxs : x.s.size ≤ 140737488351232) (ba : Option Addr) (bc : Nat) (hx : Bxd ts d w0 x ba) (s : Int) (w : World) (hE : Ext [] w0 w) (hH : Hsh w p (.slice ta tn tc) salt s) :
    Calls Tryd.prog 46 #[.pointer (some ⟨p, 0, none⟩), .int .i64 k, clV x ba bc] w (HvPost w p (.slice ta tn tc) salt (hsC ts (hsV ts salt d) salt k x s)) := by
  have HA : Hid (Ext [] w (w.alloc (.cells #[.int .u64 x.n, .string x.s, .int .i64 x.t, .slice ba x.box.length bc] 49))) := Ext.alloc _ _ _
  have hH1 := hH.keep HA.out (by simp)
  by_cases k3 : k = 3
  · subst k3
    have e : hsC ts (hsV ts salt d) salt 3 x s = some (foldI s (fltH salt x.n)) := by unfold hsC; rw [if_pos rfl]
    rw [e]
    have K := hfloat_any p (.slice ta tn tc) salt s x.n _ hH1
    unfold clV
    clear hT hG HR hx e hH hH1 hE
    generalize foldI s (fltH salt x.n) = r at *
    go_enter Tryd.func46, Tryd.ntmps46
    go_wp2_with (first | (go_at_call 59; refine K.mono ?_; clear K; rintro e w1 ⟨rfl, hH1, hE1⟩; replace hH1 := hid hH1; replace hE1 := hid hE1) | fail "no arm")
    go_ret
    exact ⟨rfl, r, hH1.out, (fun s' h => by cases h; rfl), (HA.out.mono (by simp)).trans hE1.out⟩
  · have b3 : (k == 3) = false := by simpa using k3
    by_cases k4 : k = 4
    · subst k4
      have e : hsC ts (hsV ts salt d) salt 4 x s = some (foldI (txtH s x.s x.s.size) x.s.size) := by unfold hsC; rw [if_neg (by omega), if_pos rfl]
      rw [e]
      have K := htext_any p (.slice ta tn tc) salt s x.s hxs _ hH1
      unfold clV
      clear hT hG HR hx e hH hH1 hE
      generalize foldI (txtH s x.s x.s.size) x.s.size = r at *
      go_enter Tryd.func46, Tryd.ntmps46
      go_wp2_with (first | (go_at_call 60; refine K.mono ?_; clear K; rintro e w1 ⟨rfl, hH1, hE1⟩; replace hH1 := hid hH1; replace hE1 := hid hE1) | fail "no arm")
      go_ret
      exact ⟨rfl, r, hH1.out, (fun s' h => by cases h; rfl), (HA.out.mono (by simp)).trans hE1.out⟩
    · have b4 : (k == 4) = false := by simpa using k4
      by_cases k7 : k = 7
      · subst k7
        have K := held_any ts ta tn tc htn hc hS d w0 hT hG p hp salt HR x ba bc hx s _ (hE.trans HA.out) hH1
        generalize hsC ts (hsV ts salt d) salt 7 x s = r at *
        unfold clV at K ⊢
        clear hT hG HR hx hH hH1 hE
        go_enter Tryd.func46, Tryd.ntmps46
        go_wp2_with (first | (go_at_call 61; refine K.mono ?_; clear K; rintro e w1 ⟨rfl, s1, hH1, hs1, hE1⟩; replace hH1 := hid hH1; replace hs1 := hid hs1; replace hE1 := hid hE1) | fail "no arm")
        go_ret
        exact ⟨rfl, s1, hH1.out, hs1.out, (HA.out.mono (by simp)).trans hE1.out⟩
      · have b7 : (k == 7) = false := by simpa using k7
        have e : hsC ts (hsV ts salt d) salt k x s = some (foldI s x.n) := by unfold hsC; rw [if_neg k3, if_neg k4, if_neg k7]
        rw [e]
        have K := fold_any p (.slice ta tn tc) salt s x.n _ hH1
        unfold clV
        clear hT hG HR hx e hH hH1 hE k3 k4 k7
        generalize foldI s x.n = r at *
        go_enter Tryd.func46, Tryd.ntmps46
        go_wp2_with (first | (go_at_call 62; refine K.mono ?_; clear K; rintro e w1 ⟨rfl, hH1, hE1⟩; replace hH1 := hid hH1; replace hE1 := hid hE1) | fail "no arm")
        go_ret
        exact ⟨rfl, r, hH1.out, (fun s' h => by cases h; rfl), (HA.out.mono (by simp)).trans hE1.out⟩

end Go.Proofs.YtpjcbpgfbhlioaaDoor
