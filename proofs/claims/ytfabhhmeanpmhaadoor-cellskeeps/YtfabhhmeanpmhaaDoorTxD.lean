/-
  How the program writes the text of a value that holds others; no statement is proved here.
-/
import Derived.Test.YtfabhhmeanpmhaaDoorTxC
namespace Go.Proofs.YtfabhhmeanpmhaaDoor
open Go.RowKit

/-- What a text may grow by. -/
def pot (t : Nat) (l : List Cl) : Nat := 13500 * totL l + 195 * (totL l - l.length) + 3 * (t + 1) * l.length
/-- What a call tells. -/
def Tells (w0 : World) (ts : List Ty) (ta : Option Addr) (tn tc tb bb fb d t : Nat) : Prop := ∀ (a : Option Addr) (l : List Cl) (n c : Nat), Cs d w0 a l → l.length = n → n ≤ c → wid ts t ≤ n → Okv ts d (kinds ts t) (l.take (wid ts t)) →
  ∀ (w : World) (bv : Value) (L : List UInt8), St w0 ta tn tc tb bb fb w bv L → L.length + pot t (l.take (wid ts t)) ≤ 20000000 →
  Calls Tryd.prog 31 #[.int .i64 t, .slice a n c, .pointer (some ⟨tb, 0, none⟩), .pointer (some ⟨bb, 0, none⟩), .pointer (some ⟨fb, 0, none⟩)] w (TlPost w0 ta tn tc tb bb fb d n (wid ts t) l (L ++ txt nanB ts d t (l.take (wid ts t))) w)

set_option maxRecDepth 100000 in
set_option maxHeartbeats 4000000 in
/-- A cell that holds a value in its box. -/
theorem tell_box (w0 : World) (ts : List Ty) (ta : Option Addr) (tn tc tb bb fb : Nat) (htn : ts.length = tn) (hS : Sound ts) (hT : Tab w0 ta ts) (hbb : w0.heap.size ≤ bb) (hP : Lib.TabBelow Tryd.prog w0.heap.size w0 "internal/strconv.uint64pow10" .u64 Lib.pow10Tab)
    (d t q : Nat) (ht : t < tn) (hp : parts (tyAt ts t) = []) (a : Option Addr) (l : List Cl) (n c : Nat) (hC : Cs (d + 1) w0 a l) (hn : l.length = n) (hnc : n ≤ c) (hn1 : 1 ≤ n) (hq : (cAt l 0).t = (q : Int) + 1) (hqn : q < tn) (ih : Tells w0 ts ta tn tc tb bb fb d q) (hO : Okv ts d (kinds ts q) (cAt l 0).box)
    (w : World) (bv : Value) (L : List UInt8) (hst : St w0 ta tn tc tb bb fb w bv L) (hL : L.length + 22 + pot q (cAt l 0).box ≤ 20000000) :
    Calls Tryd.prog 31 #[.int .i64 t, .slice a n c, .pointer (some ⟨tb, 0, none⟩), .pointer (some ⟨bb, 0, none⟩), .pointer (some ⟨fb, 0, none⟩)] w (TlPost w0 ta tn tc tb bb fb (d + 1) n 1 l (L ++ (Lib.itoa q ++ 58 :: txt nanB ts d q (cAt l 0).box)) w) := by
  have hF := (hS.2.1 t (by omega)).1
  have h64 := hS.1
  obtain ⟨b, o, rfl, hat⟩ := hT.addr (by omega)
  obtain ⟨fa, fc, hty0⟩ := hat t (by omega)
  have hty := hty0.keep0 hst.ext
  have K1 := partsOf_two w.heap.size (tyAt ts t) fa fc w hty.f (fun h9 => by have := hF.2.2.2.2.1 h9; omega) (tab_fb hty)
  rw [hp] at K1
  unfold tyVal at K1
  obtain ⟨d', vb, vo, hd, rfl, hcl⟩ := hC.at_ (by omega)
  obtain rfl : d' = d := by omega
  obtain ⟨ba, bc, hc0, hbx⟩ := hcl 0 (by omega)
  have hwq : wid ts q = (cAt l 0).box.length := by have := okv_len hO; unfold wid; omega
  have HIH : Hid (∀ (u : World) (bv' : Value) (L' : List UInt8), St w0 (some ⟨b, o, none⟩) tn tc tb bb fb u bv' L' → L'.length + pot q (cAt l 0).box ≤ 20000000 → Calls Tryd.prog 31 #[.int .i64 q, .slice ba (cAt l 0).box.length bc, .pointer (some ⟨tb, 0, none⟩), .pointer (some ⟨bb, 0, none⟩), .pointer (some ⟨fb, 0, none⟩)] u (TlPost w0 (some ⟨b, o, none⟩) tn tc tb bb fb d' (cAt l 0).box.length (cAt l 0).box.length (cAt l 0).box (L' ++ txt nanB ts d' q (cAt l 0).box) u)) := fun u bv' L' h1 h2 => by
    have := ih ba (cAt l 0).box _ bc hbx rfl hc0.cap (by omega) (by rw [hwq, List.take_length]; exact hO) u bv' L' h1 (by rw [hwq, List.take_length]; exact h2)
    rw [hwq, List.take_length] at this
    exact this
  have HRest := hid hC.rest1
  have HC0 := hid (hc0.keep0 hst.ext)
  have HST := hid hst
  have hil := Lib.itoa_length_le (q : Int) (by omega) (by omega)
  have KA := fun u bv' (hO : YO w0 u bv' L) (hE : Ext [] w0 u) => itoa_any w0 u bv' L (q : Int) (by omega) (by omega) hO hE (by omega) hP
  have hq64 : q < 64 := by omega
  obtain ⟨c0, c1, c2, c3, c4, _⟩ := hty
  have ct := hst.ct
  have x0 := HC0.out.c0
  have x1 := HC0.out.c1
  have x2 := HC0.out.c2
  have x3 := HC0.out.c3
  simp only [Nat.zero_mul, Nat.add_zero] at x0 x1 x2 x3
  clear hC hcl hc0 hat hF hS hd hst hT hP hty0 hO ih hbx hwq h64
  generalize (tyAt ts t).kind = kd at *
  generalize (tyAt ts t).elem = el at *
  generalize (tyAt ts t).key = ky at *
  generalize (tyAt ts t).len = ln at *
  generalize (tyAt ts t).fields.length = fl at *
  generalize txt nanB ts d' q (cAt l 0).box = X at *
  generalize Lib.itoa (q : Int) = I at *
  generalize pot q (cAt l 0).box = pt at *
  generalize hbl : (cAt l 0).box.length = bl at *
  generalize (cAt l 0).n = cn at *
  generalize (cAt l 0).s = cs at *
  rw [hq] at x2
  have hne : ((q : Int) + 1 == 0) = false := by simp only [beq_eq_false_iff_ne]; omega
  have hne2 : ¬ ((q : Int) + 1 = 0) := by omega
  go_enter Tryd.func31, Tryd.ntmps31
  go_upto_region 17 with (first | (go_at_call 32; refine K1.mono ?_; clear K1; rintro e w1 ⟨pa, pcc, rfl, _, hE1, _⟩; have y0 := hE1.cell x0 (by simp); have y1 := hE1.cell x1 (by simp); have y2 := hE1.cell x2 (by simp); have y3 := hE1.cell x3 (by simp)))
  have hE2 := hE1.trans (Ext.alloc [] w1 (.cells #[.int .u64 cn, .string cs, .int .i64 ((q : Int) + 1), .slice ba bl bc] 49))
  have cb := heap_alloc_new w1 (.cells #[.int .u64 cn, .string cs, .int .i64 ((q : Int) + 1), .slice ba bl bc] 49)
  generalize w1.alloc (.cells #[.int .u64 cn, .string cs, .int .i64 ((q : Int) + 1), .slice ba bl bc] 49) = w2 at *
  generalize w1.heap.size = cbk at *
  have hs2 := HST.out.keep0 hE2
  have K3 := KA _ _ hs2.own hs2.ext
  have r0 := hs2.cb
  have z2 : w2.cell? ⟨cbk, 2, none⟩ = some (.int .i64 ((q : Int) + 1)) := by rw [cell_of_row _ _ _ _ _ _ cb]; rfl
  have HS2 := hid hs2
  have HE2 := hid hE2
  have HCB := hid cb
  clear hE1 hE2 cb hs2 ct c0 c1 c2 c3 c4 x0 x1 x2 x3 y0 y1 y2 y3 KA
  go_wp2_with fail
  refine K3.mono ?_
  clear K3
  rintro e w4 ⟨v4, rfl, hO4, hE4, hF4⟩
  obtain ⟨v5, w5, hr5, hO5, hE5, hF5⟩ := hO4.app1 hE4 58 58 rfl (by rw [List.length_append]; omega)
  have hF25 := hF4.trans hF5
  obtain ⟨g1, g2⟩ := HS2.out.put hbb hO5 hE5 hF25
  obtain ⟨f5, k5⟩ := HS2.out.fz2 hF25
  have hcb6 := g2 cbk _ 49 _ (by decide) (by rintro rfl; have := HS2.out.bbx.symm.trans HCB.out; simp at this) HCB.out
  have z6 : (w5.setCell ⟨bb, 0, none⟩ v5).cell? ⟨cbk, 2, none⟩ = some (.int .i64 ((q : Int) + 1)) := by rw [cell_of_row _ _ _ _ _ _ hcb6]; rfl
  have z7 : (w5.setCell ⟨bb, 0, none⟩ v5).cell? ⟨cbk, 3, none⟩ = some (.slice ba bl bc) := by rw [cell_of_row _ _ _ _ _ _ hcb6]; rfl
  have z8 := g1.cf
  obtain ⟨a5, q5, rfl, _⟩ := own_slice hO5
  unfold tfn at z8
  have K6 := HIH.out _ _ _ g1 (by rw [List.length_append, List.length_append, List.length_cons, List.length_nil]; omega)
  have HG1 := hid g1
  have HG2 := hid g2
  clear hO4 hE4 hF4 hO5 hE5 hF5 hF25 g1 g2 hcb6
  generalize (L ++ I ++ [58]).length = m5 at *
  go_wp2_with (at_builtin; refine wpList_append_run2 rfl _ _ 56 56 rfl _ _ _ rfl rfl hr5 ?_)
  refine K6.mono ?_
  clear K6 HIH z6 z7 z8 hr5 f5 k5 r0 z2
  rintro e w7 ⟨ra, rc, bv7, rfl, _, _, h7, hF7⟩
  have HF : Hid (TlPost w0 (some ⟨b, o, none⟩) tn tc tb bb fb (d' + 1) n 1 l (L ++ (I ++ 58 :: X)) w (.returned (.slice (some ⟨vb, vo + 4, none⟩) (n - 1) (c - 1))) w7) := by
    refine ⟨_, _, bv7, rfl, by omega, HRest.out, ?_, ((Fb.of HE2.out).trans HG2.out).trans hF7⟩
    have e : L ++ (I ++ 58 :: X) = L ++ I ++ [58] ++ X := by simp
    rw [e]; exact h7
  have HFn : Hid (c = 1 → ∀ ra, TlPost w0 (some ⟨b, o, none⟩) tn tc tb bb fb (d' + 1) n 1 l (L ++ (I ++ 58 :: X)) w (.returned (.slice ra (n - 1) 0)) w7) := fun h1 ra => by
    refine ⟨_, _, bv7, rfl, by omega, ?_, ?_, ((Fb.of HE2.out).trans HG2.out).trans hF7⟩
    · rw [List.drop_eq_nil_of_le (by omega)]; exact Cs.nil _ _ _
    · have e : L ++ (I ++ 58 :: X) = L ++ I ++ [58] ++ X := by simp
      rw [e]; exact h7
  clear h7 hF7
  by_cases hc1 : c = 1
  · have HG := hid (HFn.out hc1)
    subst hc1
    obtain rfl : n = 1 := by omega
    go_wp2_with fail
    go_ret
    exact HG.out _
  · have h5 : ¬ c - 1 = 0 := by omega
    go_wp2_with fail
    go_ret
    exact HF.out

theorem pot_parts {ts : List Ty} {ps : List Int} {l : List Cl} {t p k : Nat} (hl : l.length = (ps.flatMap (kinds ts)).length) (hk : k < ps.length) (hpt : p < t) (h1 : k ≤ (KS ts ps k).length) (hl1 : 1 ≤ l.length) (m : Nat)
    (hm : m ≤ k + (13000 * totL (l.take (KS ts ps k).length) + 195 * (totL (l.take (KS ts ps k).length) - (l.take (KS ts ps k).length).length) + 3 * t * (l.take (KS ts ps k).length).length)) : m + 2 + pot p (pc ts ps l k) ≤ pot t l := by
  have e1 := take_pc (ts := ts) (l := l) hk
  have e2 : l = l.take (KS ts ps (k + 1)).length ++ l.drop (KS ts ps (k + 1)).length := (List.take_append_drop _ _).symm
  have hle := KS_le (ts := ts) (ps := ps) k
  have t1 := totL_len (l.take (KS ts ps k).length)
  have t2 := totL_len (pc ts ps l k)
  have t3 := totL_len (l.drop (KS ts ps (k + 1)).length)
  have ht : totL l = totL (l.take (KS ts ps k).length) + totL (pc ts ps l k) + totL (l.drop (KS ts ps (k + 1)).length) := by
    conv => lhs; rw [e2, e1, totL_append, totL_append]
  have hL : l.length = (l.take (KS ts ps k).length).length + (pc ts ps l k).length + (l.drop (KS ts ps (k + 1)).length).length := by
    conv => lhs; rw [e2, e1, List.length_append, List.length_append]
  have hS : (l.take (KS ts ps k).length).length = (KS ts ps k).length := by rw [List.length_take]; omega
  unfold pot
  generalize l.take (KS ts ps k).length = A at *
  generalize pc ts ps l k = Bp at *
  generalize l.drop (KS ts ps (k + 1)).length = C at *
  have m1 : 3 * (p + 1) * Bp.length ≤ 3 * t * Bp.length := Nat.mul_le_mul_right _ (by omega)
  have m2 : 3 * (t + 1) * l.length = 3 * t * A.length + 3 * t * Bp.length + 3 * t * C.length + 3 * l.length := by
    rw [Nat.mul_add 3 t 1, Nat.add_mul, hL, Nat.mul_add, Nat.mul_add]
  omega
theorem KS_ge {ts : List Ty} (hS : Sound ts) {ps : List Int} (h : ∀ p ∈ ps, 0 ≤ p ∧ p < ts.length) : ∀ k, k ≤ ps.length → k ≤ (KS ts ps k).length
  | 0, _ => by omega
  | k + 1, hk => by
    rw [KS_len (by omega)]
    have := KS_ge hS h k (by omega)
    have hp := h (ps.getD k 0) (getD_mem (by omega))
    have h3 := wid_pos hS (t := (ps.getD k 0).toNat) (by omega)
    rw [show (((ps.getD k 0).toNat : Nat) : Int) = ps.getD k 0 by omega] at h3
    omega
/-- A list of ints carried over. -/
theorem is_carry {w0 w w' : World} {bb : Nat} {a : Option Addr} {xs : List Int} (h : Is w a xs) (hE : Ext [] w0 w) (hE' : Ext [] w0 w') (hF : Fb bb w w') (hk : ∀ b o, a = some ⟨b, o, none⟩ → xs ≠ [] → b < w0.heap.size ∨ (b ≠ bb ∧ ∃ cs fz, w.heap[b]? = some (.cells cs 3 fz))) : Is w' a xs := by
  by_cases h0 : xs = []
  · subst h0; exact .inl rfl
  · obtain ⟨b, o, rfl, hc⟩ := h.at_ h0
    have hb : w'.heap[b]? = w.heap[b]? := by
      rcases hk b o rfl h0 with q | ⟨q, cs, fz, hcs⟩
      · exact (hE'.block b q (by simp)).trans (hE.block b q (by simp)).symm
      · exact (hF b cs 3 fz (by decide) q hcs).trans hcs.symm
    refine .inr ⟨b, o, rfl, fun j hj => ?_⟩
    have hj' : j < xs.length := by simpa using hj
    have := hc j hj'
    rw [← World.cell?_of_block (a := ⟨b, o + j, none⟩) hb] at this
    rw [this]
    simp [hj']

set_option maxRecDepth 100000 in
set_option maxHeartbeats 8000000 in
/-- A value of parts. -/
theorem tell_parts (w0 : World) (ts : List Ty) (ta : Option Addr) (tn tc tb bb fb : Nat) (htn : ts.length = tn) (hS : Sound ts) (hT : Tab w0 ta ts) (hbb : w0.heap.size ≤ bb)
    (d t : Nat) (ht : t < tn) (hp : parts (tyAt ts t) ≠ []) (ih : ∀ p : Nat, p < t → Tells w0 ts ta tn tc tb bb fb d p) : Tells w0 ts ta tn tc tb bb fb d t := by
  intro a l n c hC hn hnc hwn hO w bv L hst hL
  have hF := (hS.2.1 t (by omega)).1
  obtain ⟨b, o, rfl, hat⟩ := hT.addr (by omega)
  obtain ⟨fa, fc, hty0⟩ := hat t (by omega)
  have hty := hty0.keep0 hst.ext
  have K1 := partsOf_two w0.heap.size (tyAt ts t) fa fc w hty.f (fun h9 => by have := hF.2.2.2.2.1 h9; omega) (tab_fb hty0)
  have hke := kinds_eq hS.2.1 (t := (t : Int)) (by omega) (by omega)
  rw [if_neg hp] at hke
  have hbel := hF.below
  have hps : ∀ p ∈ parts (tyAt ts t), 0 ≤ p ∧ p < ts.length := fun p h => by have := hbel p h; omega
  have hgk := KS_ge hS hps
  have htp := txt_parts (nan := nanB) hS.2.1 (d := d) (t := (t : Int)) (l := l.take (wid ts t)) (by omega) (by omega) hp
  rw [htp]
  have hwl : (l.take (wid ts t)).length = ((parts (tyAt ts t)).flatMap (kinds ts)).length := by rw [List.length_take, ← hke]; unfold wid at *; omega
  rw [hke] at hO
  have hpc : ∀ i, pc ts (parts (tyAt ts t)) (l.take (wid ts t)) i = (((l.drop (KS ts (parts (tyAt ts t)) i).length).take (wid ts ((parts (tyAt ts t)).getD i 0)))) ∨ ¬ i < (parts (tyAt ts t)).length := fun i => by
    by_cases hi : i < (parts (tyAt ts t)).length
    · left
      have h1 := KS_le (ts := ts) (ps := parts (tyAt ts t)) (i + 1)
      rw [KS_len hi, ← hwl, List.length_take] at h1
      unfold pc
      rw [List.drop_take, List.take_take, Nat.min_eq_left (by omega)]
    · exact .inr hi
  have hjl := jnT_len (g := txt nanB ts d) (t := t) hwl (fun i hi => by
    have hb := hbel ((parts (tyAt ts t)).getD i 0) (getD_mem hi)
    obtain ⟨a', hC'⟩ := (hC.take (wid ts t)).pc ts (parts (tyAt ts t)) i
    obtain ⟨q, hq⟩ : ∃ q : Nat, (parts (tyAt ts t)).getD i 0 = q := ⟨((parts (tyAt ts t)).getD i 0).toNat, by omega⟩
    have hO' := okv_pc hO hi
    rw [hq] at hO' ⊢
    have := txt_len (nan := nanB) hS w0 d (q + 1) q a' _ (by omega) (by omega) hC' hO'
    have h3 : 3 * (q + 1) * (pc ts (parts (tyAt ts t)) (l.take (wid ts t)) i).length ≤ 3 * t * (pc ts (parts (tyAt ts t)) (l.take (wid ts t)) i).length := Nat.mul_le_mul_right _ (by omega)
    omega)
  have KB := brackets_any (tyAt ts t).kind
  have hpl := parts_len hF
  have hp1 : 0 < (parts (tyAt ts t)).length := List.length_pos_iff.2 hp
  have HBel := hid hbel
  have HGK := hid hgk
  have HPC := hid hpc
  have HJL := hid hjl
  have HWL := hid hwl
  have HO := hid hO
  have HIH := hid ih
  have HC := hid hC
  have HST := hid hst
  have k00 := hty0.c0
  have HKW : Hid (wid ts t = ((parts (tyAt ts t)).flatMap (kinds ts)).length) := by show _ = _; unfold wid; rw [hke]
  have HKF : Hid (∀ k, k < (parts (tyAt ts t)).length → (KS ts (parts (tyAt ts t)) k).length + wid ts ((parts (tyAt ts t)).getD k 0) ≤ wid ts t) := fun k hk => by
    have h1 := KS_le (ts := ts) (ps := parts (tyAt ts t)) (k + 1)
    rw [KS_len hk, ← hke] at h1
    exact h1
  have hL22 : L.length + 2 ≤ 20000000 := by
    have : 2 ≤ pot t (l.take (wid ts t)) := by
      have h1 := sum_pos hS (t := t) (by omega)
      have h2 := totL_len (l.take (wid ts t))
      unfold pot
      omega
    omega
  obtain ⟨c0, c1, c2, c3, c4, _⟩ := hty
  have ct := hst.ct
  unfold tyVal at K1
  clear hbel hps hgk hpc hjl hwl hO ih hC hat hF hke htp hst hty0
  generalize hpsE : parts (tyAt ts t) = ps at *
  generalize (tyAt ts t).kind = kd at *
  generalize (tyAt ts t).elem = el at *
  generalize (tyAt ts t).key = ky at *
  generalize (tyAt ts t).len = ln at *
  generalize (tyAt ts t).fields.length = fl at *
  go_enter Tryd.func31, Tryd.ntmps31
  go_wp2_with fail
  refine K1.mono ?_
  clear K1
  rintro e w1 ⟨pa, pcc, rfl, hIs, hE1, hib⟩
  have hs1 := HST.out.keep0 hE1
  have y0 := hs1.ext.cell k00 (by simp)
  have y1 := hs1.ct
  have HS1 := hid hs1
  have HIs := hid hIs
  have HE1 := hid hE1
  have HIB : Hid (∀ b o, pa = some ⟨b, o, none⟩ → ps ≠ [] → b < w0.heap.size ∨ (b ≠ bb ∧ ∃ cs fz, w1.heap[b]? = some (.cells cs 3 fz))) := fun b o h1 h2 => by
    rcases hib b o h1 h2 with q | ⟨cs, fz, q⟩
    · exact .inl q
    · refine .inr ⟨?_, cs, fz, q⟩
      rintro rfl
      have := HS1.out.bbx.symm.trans q
      simp at this
  obtain ⟨v2, w2, hr2, hO2, hE2, hF2⟩ := hs1.own.app1 hs1.ext (opn kd) ((opn kd).toNat : Int) rfl (by omega)
  obtain ⟨f2, k2⟩ := hs1.fz2 hF2
  obtain ⟨a2, q2, rfl, _⟩ := own_slice hO2
  obtain ⟨g1, g2⟩ := hs1.put hbb hO2 hE2 hF2
  have HG1 := hid g1
  have HG2 := hid g2
  have hcb1 := hs1.cb
  clear hIs hE1 hib hs1 c0 c1 c2 c3 c4 ct hO2 hE2 hF2 g1 g2 hp1
  generalize (L ++ [opn kd]).length = m2 at *
  have hp1 : 0 < ps.length := List.length_pos_iff.2 hp
  have hp2 : (0 : Int) < (ps.length : Int) := by omega
  go_wp2_with fail
  refine met (KB _) ?_
  go_wp2_with (at_builtin; refine wpList_append_run2 rfl _ _ 56 56 rfl _ _ _ rfl rfl hr2 ?_)
  clear hr2 f2 k2 y0 y1 hcb1 KB hp2
  have HFb0 : Hid (Fb bb w1 (w2.setCell ⟨bb, 0, none⟩ (.slice a2 m2 q2))) := HG2.out
  have HIs2 : Hid (Is (w2.setCell ⟨bb, 0, none⟩ (.slice a2 m2 q2)) pa ps) := is_carry HIs.out HS1.out.ext HG1.out.ext HG2.out HIB.out
  generalize w2.setCell ⟨bb, 0, none⟩ (.slice a2 m2 q2) = w3 at *
  go_loopw [1, 37] (fun lv u wr => ∃ (k : Nat) (va : Option Addr) (vc m : Nat) (bv' : Value), u = .int .i64 k ∧ k ≤ ps.length ∧ lv = .slice va m vc ∧ m + (KS ts ps k).length = n ∧ m ≤ vc ∧ Cs d w0 va (l.drop (KS ts ps k).length) ∧ St w0 (some ⟨b, o, none⟩) tn tc tb bb fb wr bv' (L ++ opn kd :: jnT ts (txt nanB ts d) ps (l.take (wid ts t)) k) ∧ Is wr pa ps ∧ Fb bb w1 wr) (fun _ u _ => (ps.length - (intOf u)).toNat)
  case atStart => exact ⟨0, a, c, n, _, rfl, by omega, rfl, by simp [KS], hnc, by simpa [KS] using HC.out, HG1.out, HIs2.out, HFb0.out⟩
  case round =>
    clear HG1 HIs2 HFb0 HG2
    obtain ⟨k, va, vc, m, bv', rfl, hk, rfl, hm, hmv, hCk, hsk, hIk, hFk⟩ := hrel
    have HCk := hid hCk
    have HSk := hid hsk
    have HIk := hid hIk
    have HFk := hid hFk
    clear hCk hIk hFk
    by_cases hlt : k < ps.length
    · obtain ⟨ib, io, rfl, hcs⟩ := HIk.out.at_ hp
      have hck := hcs k hlt
      have hbp := HBel.out (ps.getD k 0) (getD_mem hlt)
      obtain ⟨p, hpp⟩ : ∃ p : Nat, ps.getD k 0 = p := ⟨(ps.getD k 0).toNat, by omega⟩
      have hkf := HKF.out k hlt
      have hOk := okv_pc HO.out hlt
      have hpcE : pc ts ps (l.take (wid ts t)) k = (l.drop (KS ts ps k).length).take (wid ts p) := by
        rcases HPC.out k with q | q
        · rw [hpp] at q; exact q
        · exact absurd hlt q
      have hjk := HJL.out k (by omega)
      have hpot := pot_parts (p := p) HWL.out hlt (by omega) (HGK.out k (by omega)) (by rw [HWL.out, ← HKW.out]; exact wid_pos hS (by omega)) _ hjk
      have HKL : Hid ((KS ts ps (k + 1)).length = (KS ts ps k).length + wid ts p) := by show _ = _; rw [KS_len hlt, hpp]
      have hjs : jnT ts (txt nanB ts d) ps (l.take (wid ts t)) (k + 1) = jnT ts (txt nanB ts d) ps (l.take (wid ts t)) k ++ ((if k = 0 then [] else [32]) ++ txt nanB ts d p (pc ts ps (l.take (wid ts t)) k)) := by rw [jnT, hpp]
      rw [hpp] at hck hkf hOk
      have KT := HIH.out p (by omega) va (l.drop (KS ts ps k).length) m vc HCk.out (by rw [List.length_drop]; omega) hmv (by omega) (by rw [← hpcE]; exact hOk)
      rw [← hpcE] at KT
      have HKT := hid KT
      have HJS := hid hjs
      have HTL : Hid (L.length + pot t (l.take (wid ts t)) ≤ 20000000) := hL
      have HWP : Hid (wid ts p ≤ m) := by show _ ≤ _; omega
      have HLT := hid hlt
      clear hcs hbp hkf hOk hpcE hjk KT hjs hpp
      have hkn : (k : Int) < (ps.length : Int) := by omega
      by_cases hk0 : k = 0
      · subst hk0
        have KT := HKT.out wr bv' _ hsk (by simp only [jnT, List.length_append, List.length_cons, List.length_nil] at hpot ⊢; have := HTL.out; omega)
        have z8 := hsk.cf
        unfold tfn at z8
        clear HKT hpot hsk
        simp only [Nat.add_zero] at hck
        go_wp2_with fail
        refine KT.mono ?_
        clear KT z8
        rintro e w7 ⟨ra, rc, bv7, rfl, hrc, hC7, h7, hF7⟩
        rw [List.drop_drop] at hC7
        have HC7 := hid hC7
        have H7 := hid h7
        have HF7 := hid hF7
        clear hC7 h7 hF7
        go_wp2_with fail
        go_roundw
        case rel =>
          refine ⟨1, ra, rc, _, bv7, rfl, by omega, rfl, ?_, hrc, ?_, ?_, is_carry HIs.out HS1.out.ext H7.out.ext (HFk.out.trans HF7.out) HIB.out, HFk.out.trans HF7.out⟩
          · have := HKL.out; have := HWP.out; simp only [Nat.zero_add] at *; omega
          · have := HKL.out; simp only [Nat.zero_add] at this; rw [this]; exact HC7.out
          · have := HJS.out; simp only [Nat.zero_add, if_true, List.nil_append] at this
            rw [this]
            have h8 := H7.out
            simpa using h8
        case measure => have := HLT.out; simp [intOf]; omega
      · obtain ⟨v2', w2', hr2', hO2', hE2', hF2'⟩ := hsk.own.app1 hsk.ext 32 32 rfl (by simp only [List.length_append, List.length_cons] at hpot ⊢; have := HTL.out; omega)
        obtain ⟨f2', k2'⟩ := hsk.fz2 hF2'
        obtain ⟨a2', q2', rfl, _⟩ := own_slice hO2'
        obtain ⟨g1, g2⟩ := hsk.put hbb hO2' hE2' hF2'
        have KT := HKT.out _ _ _ g1 (by simp only [List.length_append, List.length_cons, List.length_nil] at hpot ⊢; have := HTL.out; omega)
        have z8 := g1.cf
        unfold tfn at z8
        have cbk := hsk.cb
        have HG1' := hid g1
        have HG2' := hid g2
        have hkp : (0 : Int) < (k : Int) := by omega
        clear HKT hpot hsk hO2' hE2' hF2' g1 g2
        generalize (L ++ opn kd :: jnT ts (txt nanB ts d) ps (l.take (wid ts t)) k ++ [32]).length = m5 at *
        go_wp2_with (at_builtin; refine wpList_append_run2 rfl _ _ 56 56 rfl _ _ _ rfl rfl hr2' ?_)
        refine KT.mono ?_
        clear KT z8 hr2' f2' k2' cbk
        rintro e w7 ⟨ra, rc, bv7, rfl, hrc, hC7, h7, hF7⟩
        rw [List.drop_drop] at hC7
        have HC7 := hid hC7
        have H7 := hid h7
        have HF7 := hid hF7
        clear hC7 h7 hF7
        go_wp2_with fail
        go_roundw
        case rel =>
          have hFa := (HFk.out.trans HG2'.out).trans HF7.out
          refine ⟨k + 1, ra, rc, _, bv7, by go_num, HLT.out, rfl, ?_, hrc, ?_, ?_, is_carry HIs.out HS1.out.ext H7.out.ext hFa HIB.out, hFa⟩
          · have := HKL.out; have := HWP.out; omega
          · rw [HKL.out]; exact HC7.out
          · have := HJS.out; rw [if_neg hk0] at this
            rw [this]
            have h8 := H7.out
            simpa using h8
        case measure => have := HLT.out; simp [intOf]; omega
    · obtain rfl : k = ps.length := by omega
      have hw : (KS ts ps ps.length).length = wid ts t := by rw [KS_full, ← HKW.out]
      rw [hw] at hm
      obtain ⟨v2', w2', hr2', hO2', hE2', hF2'⟩ := hsk.own.app1 hsk.ext (cls kd) ((cls kd).toNat : Int) rfl (by
        have h1 := HJL.out ps.length (by omega)
        rw [hw] at h1
        have h2 : (l.take (wid ts t)).take (wid ts t) = l.take (wid ts t) := by rw [List.take_take, Nat.min_self]
        rw [h2] at h1
        have h3 := totL_len (l.take (wid ts t))
        have h4 := HGK.out ps.length (by omega)
        rw [hw] at h4
        have h5 : (l.take (wid ts t)).length = wid ts t := by rw [List.length_take]; omega
        have h6 : 3 * t * (l.take (wid ts t)).length ≤ 3 * (t + 1) * (l.take (wid ts t)).length := Nat.mul_le_mul_right _ (by omega)
        unfold pot at hL
        simp only [List.length_append, List.length_cons]
        omega)
      obtain ⟨f2', k2'⟩ := hsk.fz2 hF2'
      obtain ⟨a2', q2', rfl, _⟩ := own_slice hO2'
      obtain ⟨g1, g2⟩ := hsk.put hbb hO2' hE2' hF2'
      have cbk := hsk.cb
      have HFin : Hid (∀ V, V = w2'.setCell ⟨bb, 0, none⟩ (.slice a2' (L ++ opn kd :: jnT ts (txt nanB ts d) ps (l.take (wid ts t)) ps.length ++ [cls kd]).length q2') → TlPost w0 (some ⟨b, o, none⟩) tn tc tb bb fb d n (wid ts t) l (L ++ opn kd :: (jnT ts (txt nanB ts d) ps (l.take (wid ts t)) ps.length ++ [cls kd])) w (.returned (.slice va m vc)) V) := fun V hV => by
        subst hV
        refine ⟨va, vc, _, by rw [show n - wid ts t = m by omega], by omega, by have := HCk.out; rwa [hw] at this, by simpa using g1, ((Fb.of HE1.out).trans HFk.out).trans g2⟩
      have hkn : ¬ ((ps.length : Int) < (ps.length : Int)) := by omega
      clear hsk hO2' hE2' hF2' g1 g2 hlt hk
      generalize (L ++ opn kd :: jnT ts (txt nanB ts d) ps (l.take (wid ts t)) ps.length ++ [cls kd]).length = m5 at *
      go_wp2_with (at_builtin; refine wpList_append_run2 rfl _ _ 56 56 rfl _ _ _ rfl rfl hr2' ?_)
      go_ret
      exact HFin.out _ rfl

/-- Every value's text. -/
theorem tell_any (w0 : World) (ts : List Ty) (ta : Option Addr) (tn tc tb bb fb : Nat) (htn : ts.length = tn) (hS : Sound ts) (hT : Tab w0 ta ts) (hbb : w0.heap.size ≤ bb) (hP : Lib.TabBelow Tryd.prog w0.heap.size w0 "internal/strconv.uint64pow10" .u64 Lib.pow10Tab) :
    ∀ (d N t : Nat), t < N → t < tn → Tells w0 ts ta tn tc tb bb fb d t := by
  intro d
  induction d with
  | zero =>
    intro N t _ ht a l n c hC hn hnc hwn hO
    obtain rfl : l = [] := hC
    have := wid_pos hS (t := t) (by omega)
    simp at hn
    omega
  | succ d ihd =>
    intro N
    induction N with
    | zero => intro t h; omega
    | succ N ihN =>
      intro t htN ht
      by_cases hp : parts (tyAt ts t) = []
      · intro a l n c hC hn hnc hwn hO w bv L hst hL
        have hke := kinds_eq hS.2.1 (t := (t : Int)) (by omega) (by omega)
        rw [if_pos hp] at hke
        have hw : wid ts t = 1 := by unfold wid; rw [hke]; rfl
        rw [hw] at hO hL hwn ⊢
        rw [hke] at hO
        have hl1 : (l.take 1).length = 1 := by rw [List.length_take]; omega
        have hok := (okv_one (d := d) (k := (tyAt ts t).kind) hl1).1 hO
        have ec : cAt (l.take 1) 0 = cAt l 0 := cAt_take (by omega)
        rw [ec] at hok
        have hlt : l.take 1 = [cAt l 0] := by
          obtain ⟨x, hx⟩ := List.length_eq_one_iff.1 hl1
          rw [hx] at ec ⊢
          rw [← ec]; rfl
        have htot : totL (l.take 1) = 1 + totL (cAt l 0).box := by rw [hlt]; simp [totL, totC_eq]
        by_cases h0 : (cAt l 0).t = 0
        · have := tell_cell w0 ts ta tn tc tb bb fb htn hS hT hbb hP d t ht hp a l n c hC hn hnc hwn h0 hok.fit w bv L hst (by omega)
          rw [txt_leaf hp (by rw [ec]; exact h0), ec]
          exact this
        · obtain ⟨hb1, hb2⟩ := hok.box h0
          obtain ⟨q, hq⟩ : ∃ q : Nat, (cAt l 0).t = (q : Int) + 1 := ⟨((cAt l 0).t - 1).toNat, by have := hb1.1; omega⟩
          have hqn : q < tn := by have := hb1.2.1; omega
          have h64 := hS.1
          have hle := totL_len (cAt l 0).box
          have hq1 : (cAt l 0).t - 1 = (q : Int) := by omega
          rw [hq1] at hb2
          have := tell_box w0 ts ta tn tc tb bb fb htn hS hT hbb hP d t q ht hp a l n c hC hn hnc hwn hq hqn (ihd (q + 1) q (by omega) hqn) hb2 w bv L hst (by
            unfold pot at hL ⊢
            rw [htot, hl1] at hL
            have : 3 * (q + 1) * (cAt l 0).box.length ≤ 195 * (cAt l 0).box.length := Nat.mul_le_mul_right _ (by omega)
            omega)
          rw [txt_box hp (by rw [ec]; exact h0), ec, hq1]
          exact this
      · exact tell_parts w0 ts ta tn tc tb bb fb htn hS hT hbb (d + 1) t ht hp (fun p hpt => ihN p (by omega) (by omega))
end Go.Proofs.YtfabhhmeanpmhaaDoor
