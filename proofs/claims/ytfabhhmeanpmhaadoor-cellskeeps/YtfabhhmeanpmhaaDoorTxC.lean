/-
  How the program writes the text of a value; no statement is proved here.
-/
import Derived.Test.YtfabhhmeanpmhaaDoorTxB
namespace Go.Proofs.YtfabhhmeanpmhaaDoor
open Go.RowKit

/-- A list of ints that lies below B, or in a row of ints. -/
def LPost2 (B : Nat) (w : World) (xs : List Int) (e : Ending) (w' : World) : Prop :=
  ∃ a c, e = .returned (.slice a xs.length c) ∧ Is w' a xs ∧ Ext [] w w' ∧ (∀ b o, a = some ⟨b, o, none⟩ → xs ≠ [] → b < B ∨ ∃ cs fz, w'.heap[b]? = some (.cells cs 3 fz))

set_option maxRecDepth 100000 in
set_option maxHeartbeats 4000000 in
theorem partsOf_two (B : Nat) (t : Ty) (fa : Option Addr) (fc : Nat) (w : World) (hF : FOk w t fa) (h9 : t.kind = 9 → 0 ≤ t.len ∧ t.len ≤ 16) (hB : ∀ b o, fa = some ⟨b, o, none⟩ → t.fields ≠ [] → b < B) :
    Calls Tryd.prog 32 #[tyVal t fa fc] w (LPost2 B w (parts t)) := by
  unfold tyVal
  by_cases k8 : t.kind = 8
  · have HP := hid (parts8 k8)
    have HF := hid hF.1
    have HB := hid hB
    rw [k8]
    clear hF h9 hB k8
    go_enter Tryd.func32, Tryd.ntmps32
    go_wp2
    go_ret
    rw [HP.out]
    exact ⟨fa, fc, rfl, HF.out.keep0 (Ext.alloc _ _ _), Ext.alloc _ _ _, fun b o h h2 => .inl (HB.out b o h h2)⟩
  · by_cases k9 : t.kind = 9
    · obtain ⟨n, hn⟩ : ∃ n : Nat, t.len = n := ⟨t.len.toNat, by have := h9 k9; omega⟩
      have hn16 : n ≤ 16 := by have := h9 k9; omega
      have HP : Hid (parts t = List.replicate n t.elem) := by show _ = _; rw [parts9 k9, hn]; rfl
      rw [k9, hn]
      have hmk := run_make_row' (P := Tryd.prog) 42 3 (.int .i64 0) 8 Tryd.underlying42 info3 rfl .i64 .i64 n (by omega) (by omega) (w.alloc (.cells #[.int .i64 9, .int .i64 t.elem, .int .i64 t.key, .int .i64 (n : Int), .slice fa t.fields.length fc] 45))
      clear hF h9 hB k8 k9 hn
      generalize t.fields.length = fl at *
      generalize t.elem = el at *
      generalize t.key = ky at *
      go_enter Tryd.func32, Tryd.ntmps32
      go_wp2_with fail
      have hb0 : ((w.alloc (.cells #[.int .i64 9, .int .i64 el, .int .i64 ky, .int .i64 (n : Int), .slice fa fl fc] 45)).alloc (.cells (madeCells #[.int .i64 0] n) 3)).cell? ⟨w.heap.size, 1, none⟩ = some (.int .i64 el) := by
        rw [cell_of_row _ _ _ _ _ _ (heap_alloc2_old _ _ _)]; rfl
      go_loopw [18] (fun u wr => ∃ k : Nat, u = .int .i64 k ∧ k ≤ n ∧ wr.cell? ⟨w.heap.size, 1, none⟩ = some (.int .i64 el) ∧ Ext [] w wr ∧ ∃ cs, wr.heap[w.heap.size + 1]? = some (.cells cs 3 (0, 0)) ∧ cs.size = n ∧ ∀ i, i < k → cs[i]? = some (.int .i64 el)) (fun u _ => (n - (intOf u)).toNat)
      case atStart => exact ⟨0, rfl, by omega, hb0, (Ext.alloc [] _ _).trans (Ext.alloc [] _ _), _, heap_alloc2_new _ _ _, size_madeCells _ _, fun i hi => by omega⟩
      case round =>
        obtain ⟨k, rfl, hk, hc, hE, cs, hr, hs, hv⟩ := hrel
        have HE := hid hE
        have HR := hid hr
        have HV := hid hv
        clear hE hv
        by_cases hlt : k < n
        · have hkn : (k : Int) < n := by omega
          have f1 : wr.frozen? ⟨w.heap.size + 1, k, none⟩ = false := frozen_of_row _ _ _ _ _ hr
          obtain ⟨z, q0⟩ : ∃ v, wr.cell? ⟨w.heap.size + 1, k, none⟩ = some v := ⟨cs[k]'(by omega), by rw [cell_of_row _ _ _ _ _ _ hr]; simp [hs, hlt]⟩
          clear hr
          go_wp2_with fail
          refine ⟨⟨k + 1, by go_num, by omega, (Ext.setCell [w.heap.size + 1] wr ⟨w.heap.size + 1, k, none⟩ _ (by simp)).cell hc (by simp), HE.out.on (Ext.setCell [w.heap.size + 1] wr ⟨w.heap.size + 1, k, none⟩ _ (by simp)) (by simp), _, heap_setCell_same _ _ _ _ _ _ HR.out, by simp [hs], fun i hi => ?_⟩, by simp [intOf]; omega⟩
          by_cases e : i = k
          · subst e; simp [hs, hlt]
          · simp only [Array.getElem?_setIfInBounds]
            rw [if_neg (by omega)]
            exact HV.out i (by omega)
        · obtain rfl : k = n := by omega
          clear hr
          go_wp2_with fail
          go_ret
          rw [HP.out]
          exact ⟨some ⟨w.heap.size + 1, 0, none⟩, k, by simp, is_row HR.out (fun i hi => by rw [HV.out i (by simpa using hi)]; simp at hi; simp [hi]), HE.out, fun b o h _ => (by cases h; right; exact ⟨_, _, HR.out⟩)⟩
    · have HP := hid (parts0 k8 k9)
      have e8 : (t.kind == 8) = false := by simpa using k8
      have e9 : (t.kind == 9) = false := by simpa using k9
      clear hF h9 hB
      go_enter Tryd.func32, Tryd.ntmps32
      go_wp2
      go_ret
      rw [HP.out]
      exact ⟨none, 0, rfl, .inl rfl, Ext.alloc _ _ _, fun b o h => (by cases h)⟩


/-- The closure that tells. -/
def tfn (tb bb fb : Nat) : Value := .func (.func 31) #[] #[.pointer (some ⟨tb, 0, none⟩), .pointer (some ⟨bb, 0, none⟩), .pointer (some ⟨fb, 0, none⟩)]
/-- Whatever is no row of bytes, and not bb, is as it was. -/
def Fb (bb : Nat) (w w' : World) : Prop := ∀ (k : Nat) (cs : Array Value) (T : TypeId) (fz : Nat × Nat), T ≠ 5 → k ≠ bb → w.heap[k]? = some (Obj.cells cs T fz) → w'.heap[k]? = some (Obj.cells cs T fz)
theorem Fb.refl (bb : Nat) (w : World) : Fb bb w w := fun _ _ _ _ _ _ h => h
theorem Fb.trans {bb : Nat} {a b c : World} (h : Fb bb a b) (k : Fb bb b c) : Fb bb a c := fun i cs T fz hT hb hc => k i cs T fz hT hb (h i cs T fz hT hb hc)
theorem Fb.of {bb : Nat} {w w' : World} (h : Ext [] w w') : Fb bb w w' := fun _ _ _ _ _ _ hc => h.keep hc (by simp)

/-- The variables of a text under way. -/
structure St (w0 : World) (ta : Option Addr) (tn tc tb bb fb : Nat) (w : World) (bv : Value) (L : List UInt8) : Prop where
  ext : Ext [] w0 w
  tbx : w.heap[tb]? = some (.cells #[.slice ta tn tc] 22 (0, 0))
  fbx : w.heap[fb]? = some (.cells #[tfn tb bb fb] 57 (0, 0))
  bbx : w.heap[bb]? = some (.cells #[bv] 56 (0, 0))
  own : YO w0 w bv L
theorem St.keep0 {w0 : World} {ta : Option Addr} {tn tc tb bb fb : Nat} {w w' : World} {bv : Value} {L : List UInt8} (h : St w0 ta tn tc tb bb fb w bv L) (e : Ext [] w w') : St w0 ta tn tc tb bb fb w' bv L :=
  ⟨h.ext.trans e, e.keep h.tbx (by simp), e.keep h.fbx (by simp), e.keep h.bbx (by simp), h.own.keep0 e⟩
theorem St.ct {w0 : World} {ta : Option Addr} {tn tc tb bb fb : Nat} {w : World} {bv : Value} {L : List UInt8} (h : St w0 ta tn tc tb bb fb w bv L) : w.cell? ⟨tb, 0, none⟩ = some (.slice ta tn tc) := by rw [cell_of_row _ _ _ _ _ _ h.tbx]; rfl
theorem St.cf {w0 : World} {ta : Option Addr} {tn tc tb bb fb : Nat} {w : World} {bv : Value} {L : List UInt8} (h : St w0 ta tn tc tb bb fb w bv L) : w.cell? ⟨fb, 0, none⟩ = some (tfn tb bb fb) := by rw [cell_of_row _ _ _ _ _ _ h.fbx]; rfl
theorem St.cb {w0 : World} {ta : Option Addr} {tn tc tb bb fb : Nat} {w : World} {bv : Value} {L : List UInt8} (h : St w0 ta tn tc tb bb fb w bv L) : w.cell? ⟨bb, 0, none⟩ = some bv := by rw [cell_of_row _ _ _ _ _ _ h.bbx]; rfl
theorem St.fz {w0 : World} {ta : Option Addr} {tn tc tb bb fb : Nat} {w : World} {bv : Value} {L : List UInt8} (h : St w0 ta tn tc tb bb fb w bv L) : w.frozen? ⟨bb, 0, none⟩ = false := frozen_of_row _ _ _ _ _ h.bbx
/-- Bytes have been written, the variable not yet. -/
theorem St.fz2 {w0 : World} {ta : Option Addr} {tn tc tb bb fb : Nat} {w w1 : World} {bv : Value} {L : List UInt8} (h : St w0 ta tn tc tb bb fb w bv L) (hF : Fy w w1) : w1.frozen? ⟨bb, 0, none⟩ = false ∧ w1.cell? ⟨bb, 0, none⟩ = some bv := by
  have := hF bb _ 56 _ (by decide) h.bbx
  exact ⟨frozen_of_row _ _ _ _ _ this, by rw [cell_of_row _ _ _ _ _ _ this]; rfl⟩
theorem St.put {w0 : World} {ta : Option Addr} {tn tc tb bb fb : Nat} {w w1 : World} {bv v' : Value} {L L' : List UInt8} (h : St w0 ta tn tc tb bb fb w bv L) (hb : w0.heap.size ≤ bb) (hO : YO w0 w1 v' L') (hE : Ext [] w0 w1) (hF : Fy w w1) :
    St w0 ta tn tc tb bb fb (w1.setCell ⟨bb, 0, none⟩ v') v' L' ∧ Fb bb w (w1.setCell ⟨bb, 0, none⟩ v') := by
  have h1 := hF bb _ 56 _ (by decide) h.bbx
  have h2 := hF tb _ 22 _ (by decide) h.tbx
  have h3 := hF fb _ 57 _ (by decide) h.fbx
  have hx := Ext.setCell [bb] w1 ⟨bb, 0, none⟩ v' (by simp)
  have n1 : tb ≠ bb := by rintro rfl; have := h1.symm.trans h2; simp at this
  have n2 : fb ≠ bb := by rintro rfl; have := h1.symm.trans h3; simp at this
  refine ⟨⟨hE.on hx (by simpa using hb), hx.keep h2 (by simpa using n1), hx.keep h3 (by simpa using n2), row_set1 h1, own_keep hO hx (by simpa using own_ne hO h1 (by decide))⟩, fun k cs T fz hT hk hc => hx.keep (hF k cs T fz hT hc) (by simpa using hk)⟩

def TlPost (w0 : World) (ta : Option Addr) (tn tc tb bb fb : Nat) (d n k : Nat) (l : List Cl) (L : List UInt8) (w : World) (e : Ending) (w' : World) : Prop :=
  ∃ ra rc bv, e = .returned (.slice ra (n - k) rc) ∧ n - k ≤ rc ∧ Cs d w0 ra (l.drop k) ∧ St w0 ta tn tc tb bb fb w' bv L ∧ Fb bb w w'

theorem Cs.rest1 {d : Nat} {w : World} {b o : Nat} {l : List Cl} (h : Cs d w (some ⟨b, o, none⟩) l) : Cs d w (some ⟨b, o + 4, none⟩) (l.drop 1) := by
  have := h.drop 1
  simpa using this

set_option maxRecDepth 100000 in
set_option maxHeartbeats 4000000 in
/-- A cell with nothing in its box. -/
theorem tell_cell (w0 : World) (ts : List Ty) (ta : Option Addr) (tn tc tb bb fb : Nat) (htn : ts.length = tn) (hS : Sound ts) (hT : Tab w0 ta ts) (hbb : w0.heap.size ≤ bb) (hP : Lib.TabBelow Tryd.prog w0.heap.size w0 "internal/strconv.uint64pow10" .u64 Lib.pow10Tab)
    (d t : Nat) (ht : t < tn) (hp : parts (tyAt ts t) = []) (a : Option Addr) (l : List Cl) (n c : Nat) (hC : Cs (d + 1) w0 a l) (hn : l.length = n) (hnc : n ≤ c) (hn1 : 1 ≤ n) (h0 : (cAt l 0).t = 0) (hf : Fits (tyAt ts t).kind (cAt l 0).n (cAt l 0).s (cAt l 0).t (cAt l 0).box.length)
    (w : World) (bv : Value) (L : List UInt8) (hst : St w0 ta tn tc tb bb fb w bv L) (hL : L.length ≤ 30000000) :
    Calls Tryd.prog 31 #[.int .i64 t, .slice a n c, .pointer (some ⟨tb, 0, none⟩), .pointer (some ⟨bb, 0, none⟩), .pointer (some ⟨fb, 0, none⟩)] w (TlPost w0 ta tn tc tb bb fb (d + 1) n 1 l (L ++ ctx nanB (tyAt ts t).kind (cAt l 0)) w) := by
  have hF := (hS.2.1 t (by omega)).1
  obtain ⟨b, o, rfl, hat⟩ := hT.addr (by omega)
  obtain ⟨fa, fc, hty0⟩ := hat t (by omega)
  have k00 := hty0.c0
  have hty := hty0.keep0 hst.ext
  have K1 := partsOf_two w.heap.size (tyAt ts t) fa fc w hty.f (fun h9 => by have := hF.2.2.2.2.1 h9; omega) (tab_fb hty)
  rw [hp] at K1
  unfold tyVal at K1
  obtain ⟨d', vb, vo, hd, rfl, hcl⟩ := hC.at_ (by omega)
  obtain rfl : d' = d := by omega
  obtain ⟨ba, bc, hc0, _⟩ := hcl 0 (by omega)
  have hlf := kinds_leaf hS.2.1 (t + 1) t (by omega) (by omega) (by omega) (tyAt ts t).kind (by rw [kinds_eq hS.2.1 (by omega) (by omega), if_pos hp]; simp)
  have hrg := hc0.rg
  have HRest := hid hC.rest1
  have HC0 := hid (hc0.keep0 hst.ext)
  have HTY := hid hty
  have HST := hid hst
  have KA := fun u bv' (hO : YO w0 u bv' L) (hE : Ext [] w0 u) => acell_any w0 u bv' L (tyAt ts t).kind (cAt l 0) ba (cAt l 0).box.length bc hlf hrg hf hO hE (by omega) hP
  obtain ⟨c0, c1, c2, c3, c4, _⟩ := hty
  have ct := hst.ct
  have x0 := HC0.out.c0
  have x1 := HC0.out.c1
  have x2 := HC0.out.c2
  have x3 := HC0.out.c3
  simp only [Nat.zero_mul, Nat.add_zero] at x0 x1 x2 x3
  have hcap := hc0.cap
  clear hC hcl hc0 hat hF hS hd hst hT hlf hf hrg hP hty0
  generalize ctx nanB (tyAt ts t).kind (cAt l 0) = X at *
  generalize (tyAt ts t).kind = kd at *
  generalize (tyAt ts t).elem = el at *
  generalize (tyAt ts t).key = ky at *
  generalize (tyAt ts t).len = ln at *
  generalize (tyAt ts t).fields.length = fl at *
  generalize (cAt l 0).box.length = bl at *
  generalize (cAt l 0).n = cn at *
  generalize (cAt l 0).s = cs at *
  generalize (cAt l 0).t = cT at *
  subst h0
  go_enter Tryd.func31, Tryd.ntmps31
  go_upto_region 16 with (first | (go_at_call 32; refine K1.mono ?_; clear K1; rintro e w1 ⟨pa, pcc, rfl, _, hE1, _⟩; have y0 := hE1.cell x0 (by simp); have y1 := hE1.cell x1 (by simp); have y2 := hE1.cell x2 (by simp); have y3 := hE1.cell x3 (by simp)))
  have hE2 := hE1.trans (Ext.alloc [] w1 (.cells #[.int .u64 cn, .string cs, .int .i64 0, .slice ba bl bc] 49))
  have cb := heap_alloc_new w1 (.cells #[.int .u64 cn, .string cs, .int .i64 0, .slice ba bl bc] 49)
  generalize w1.alloc (.cells #[.int .u64 cn, .string cs, .int .i64 0, .slice ba bl bc] 49) = w2 at *
  generalize w1.heap.size = cbk at *
  have hE3 := hE2.trans (Ext.drew [] w2)
  have hs3 := HST.out.keep0 hE3
  have K3 := KA _ _ hs3.own hs3.ext
  have cb3 := (Ext.drew [] w2).keep cb (by simp)
  have r0 := hs3.cb
  have r1 := hs3.ct
  have r2 := hs3.ext.cell k00 (by simp)
  have z0 : w2.drew.cell? ⟨cbk, 0, none⟩ = some (.int .u64 cn) := by rw [cell_of_row _ _ _ _ _ _ cb3]; rfl
  have z1 : w2.drew.cell? ⟨cbk, 1, none⟩ = some (.string cs) := by rw [cell_of_row _ _ _ _ _ _ cb3]; rfl
  have z2 : w2.drew.cell? ⟨cbk, 2, none⟩ = some (.int .i64 0) := by rw [cell_of_row _ _ _ _ _ _ cb3]; rfl
  have z3 : w2.drew.cell? ⟨cbk, 3, none⟩ = some (.slice ba bl bc) := by rw [cell_of_row _ _ _ _ _ _ cb3]; rfl
  have HS3 := hid hs3
  have HE3 := hid hE3
  have HCB := hid cb3
  clear hE1 hE2 hE3 cb cb3 hs3 ct c0 c1 c2 c3 c4 x0 x1 x2 x3 y0 y1 y2 y3 KA
  by_cases hc1 : c = 1
  · subst hc1
    obtain rfl : n = 1 := by omega
    go_region_law (go_simp; go_wp2_with (first | (go_at_call 34; refine K3.mono ?_; clear K3; rintro e w4 ⟨v4, rfl, hO4, hE4, hF4⟩; obtain ⟨a4, q4, rfl, _⟩ := own_slice hO4; have f4 := HS3.out.fz2 hF4; obtain ⟨f4a, f4b⟩ := f4; have q1 := (cell_of_row _ _ 0 _ _ _ (hF4 _ _ 22 _ (by decide) HS3.out.tbx)); have q2 := hE4.cell k00 (by simp); have HO4 := hid hO4; have HE4 := hid hE4; have HF4 := hid hF4; clear hO4 hE4 hF4)))
    all_goals
      go_wp2_with fail
      go_ret
      rw [← List.length_append]
      obtain ⟨g1, g2⟩ := HS3.out.put hbb HO4.out HE4.out HF4.out
      exact ⟨_, _, _, rfl, by omega, by rw [List.drop_eq_nil_of_le (by omega)]; exact Cs.nil _ _ _, g1, (Fb.of HE3.out).trans g2⟩
  · have h5 : ¬ c - 1 = 0 := by omega
    go_region_law (go_simp; go_wp2_with (first | (go_at_call 34; refine K3.mono ?_; clear K3; rintro e w4 ⟨v4, rfl, hO4, hE4, hF4⟩; obtain ⟨a4, q4, rfl, _⟩ := own_slice hO4; have f4 := HS3.out.fz2 hF4; obtain ⟨f4a, f4b⟩ := f4; have q1 := (cell_of_row _ _ 0 _ _ _ (hF4 _ _ 22 _ (by decide) HS3.out.tbx)); have q2 := hE4.cell k00 (by simp); have HO4 := hid hO4; have HE4 := hid hE4; have HF4 := hid hF4; clear hO4 hE4 hF4)))
    all_goals
      go_wp2_with fail
      go_ret
      rw [← List.length_append]
      obtain ⟨g1, g2⟩ := HS3.out.put hbb HO4.out HE4.out HF4.out
      exact ⟨_, _, _, rfl, by omega, HRest.out, g1, (Fb.of HE3.out).trans g2⟩
end Go.Proofs.YtfabhhmeanpmhaaDoor
