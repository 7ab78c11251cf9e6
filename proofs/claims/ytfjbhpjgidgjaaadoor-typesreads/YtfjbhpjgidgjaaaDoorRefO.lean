/-
  How the reference reads a type; no statement is proved here.
-/
import Derived.Test.YtfjbhpjgidgjaaaDoorRefN
import Derived.Deep.AppendLies
import Derived.Deep.RegionLaw
import Derived.Deep.Cut
namespace Go.Proofs.YtfjbhpjgidgjaaaDoor
open Go.RowKit

/-- What a type is read as by the reference, from one that is read so far. -/
structure OneOut (w : World) (p : Nat) (a : Option Addr) (n c : Nat) (O : Rd Ty) (e : Ending) (w' : World) : Prop where
  ex : ∃ t fa fc b f, e = .returned (tyVal t fa fc) ∧ Rdf w' p a n c b f ∧ b ≤ n ∧ w'.ownsRow w.heap.size 3 1 (.slice fa t.fields.length fc) t.fields.length (t.fields.map (.int .i64)) ∧ t.fields.length ≤ 2147483648 ∧ (f = false → O = .good t b) ∧ (f = true → O = .bad b)
  x : Ext [p] w w'

theorem numR_no {L : List Int} {a : Nat} (h : (numR L a false).2.2 = true) : rdN L a = none ∧ numR L a false = (0, a, true) := by
  unfold numR at *
  cases hr : rdN L a with
  | none => simp
  | some r => obtain ⟨v, b⟩ := r; simp [hr] at h
theorem numR_yes {L : List Int} {a : Nat} (h : (numR L a false).2.2 = false) : rdN L a = some ((numR L a false).1, (numR L a false).2.1) := by
  unfold numR at *
  cases hr : rdN L a with
  | none => simp [hr] at h
  | some r => obtain ⟨v, b⟩ := r; simp
theorem numR_stay {L : List Int} {a : Nat} : numR L a true = (0, a, true) := by simp [numR]

theorem fields0 (w : World) (base : Nat) : w.ownsRow base 3 1 (.slice none 0 0) 0 [] := own_nil _ _ _ _

/-- Two numbers one behind the other. -/
def two (L : List Int) (b : Nat) (mk : Int → Int → Ty) : Rd Ty := match rdNum L b with | .bad x => .bad x | .good y a2 => match rdNum L a2 with | .bad x => .bad x | .good e a3 => .good (mk y e) a3
theorem two_eq (L : List Int) (b : Nat) (mk : Int → Int → Ty) : ((numR L (numR L b false).2.1 (numR L b false).2.2).2.2 = false → two L b mk = .good (mk (numR L b false).1 (numR L (numR L b false).2.1 (numR L b false).2.2).1) (numR L (numR L b false).2.1 (numR L b false).2.2).2.1) ∧ ((numR L (numR L b false).2.1 (numR L b false).2.2).2.2 = true → two L b mk = .bad (numR L (numR L b false).2.1 (numR L b false).2.2).2.1) := by
  cases h3 : (numR L b false).2.2
  · have e3 := numR_yes h3
    generalize numR L b false = r3 at *
    obtain ⟨v3, b3, f3⟩ := r3
    simp only at *
    unfold two rdNum
    rw [e3]
    simp only
    refine ⟨fun h => ?_, fun h => ?_⟩
    · rw [numR_yes h]
    · obtain ⟨h1, h2⟩ := numR_no h
      rw [h1, h2]
  · obtain ⟨e1, e2⟩ := numR_no h3
    rw [e2]
    simp only [numR_stay]
    unfold two rdNum
    rw [e1]
    simp

def thenF (k : Int) : Rd (List Int) → Rd Ty
  | .bad x => .bad x
  | .good f d => .good ⟨k, 0, 0, 0, f⟩ d

/-- How far the reading of a type's fields is. -/
structure FldT (w : World) (p q : Nat) (a : Option Addr) (n c : Nat) (L : List Int) (kv : Int) (O : Rd Ty) (r i : Nat) (wy : World) (b : Nat) (f : Bool) (fs : List Int) (fa : Option Addr) (fc : Nat) : Prop where
  ext : Ext [p] w wy
  rdf : Rdf wy p a n c b f
  le : b ≤ n
  len : fs.length = i
  one : OneAt wy q ⟨kv, 0, 0, 0, fs⟩ fa fc
  res : OneAt wy w.heap.size ⟨0, 0, 0, 0, []⟩ none 0
  row : wy.ownsRow w.heap.size 3 1 (.slice fa i fc) i (fs.map (.int .i64))
  good : f = false → thenF kv (rdFields L r b fs) = O
  bad : f = true → O = .bad b

theorem one_fin {w wz : World} {p : Nat} {a : Option Addr} {n c : Nat} {O : Rd Ty} {t u : Ty} {fa ua : Option Addr} {fc uc b : Nat} {f : Bool} (hz : OneAt wz w.heap.size u ua uc) (hR : Rdf wz p a n c b f) (hb : b ≤ n) (hrow : wz.ownsRow w.heap.size 3 1 (.slice fa t.fields.length fc) t.fields.length (t.fields.map (.int .i64))) (hfl : t.fields.length ≤ 2147483648) (hgood : f = false → O = .good t b) (hbad : f = true → O = .bad b) (hE : Ext [p] w wz) (hpl : p < w.heap.size) :
    OneOut w p a n c O (.returned (tyVal t fa fc)) (((((wz.setCell ⟨w.heap.size, 0, none⟩ (.int .i64 t.kind)).setCell ⟨w.heap.size, 1, none⟩ (.int .i64 t.elem)).setCell ⟨w.heap.size, 2, none⟩ (.int .i64 t.key)).setCell ⟨w.heap.size, 3, none⟩ (.int .i64 t.len)).setCell ⟨w.heap.size, 4, none⟩ (.slice fa t.fields.length fc)) := by
  have hS := ((((Ext.setCell [w.heap.size] wz ⟨w.heap.size, 0, none⟩ (.int .i64 t.kind) (by simp)).trans (Ext.setCell [w.heap.size] _ ⟨w.heap.size, 1, none⟩ (.int .i64 t.elem) (by simp))).trans (Ext.setCell [w.heap.size] _ ⟨w.heap.size, 2, none⟩ (.int .i64 t.key) (by simp))).trans (Ext.setCell [w.heap.size] _ ⟨w.heap.size, 3, none⟩ (.int .i64 t.len) (by simp))).trans (Ext.setCell [w.heap.size] _ ⟨w.heap.size, 4, none⟩ (.slice fa t.fields.length fc) (by simp))
  refine ⟨⟨t, fa, fc, b, f, rfl, hR.keep hS (by simp; omega), hb, own_keep hrow hS (by simpa using own_ne hrow hz (by decide)), hfl, hgood, hbad⟩, ?_⟩
  exact ((hE.mono (T := [p, w.heap.size]) (by simp)).trans (hS.mono (by simp))).drop (by simp)

theorem set5w {wz : World} {r0 : Nat} {u : Ty} {ua : Option Addr} {uc : Nat} (hz : OneAt wz r0 u ua uc) (t : Ty) (fa : Option Addr) (fc : Nat) : OneAt (((((wz.setCell ⟨r0, 0, none⟩ (.int .i64 t.kind)).setCell ⟨r0, 1, none⟩ (.int .i64 t.elem)).setCell ⟨r0, 2, none⟩ (.int .i64 t.key)).setCell ⟨r0, 3, none⟩ (.int .i64 t.len)).setCell ⟨r0, 4, none⟩ (.slice fa t.fields.length fc)) r0 t fa fc := by
  unfold OneAt
  rw [heap_setCell_same _ r0 4 _ _ _ (heap_setCell_same _ r0 3 _ _ _ (heap_setCell_same _ r0 2 _ _ _ (heap_setCell_same _ r0 1 _ _ _ (heap_setCell_same wz r0 0 _ _ _ hz))))]
  rfl

theorem ret48 {wz : World} {tmps : Array Value} {r0 : Nat} {u : Ty} {ua : Option Addr} {uc : Nat} (hz : OneAt wz r0 u ua uc) (t : Ty) (fa : Option Addr) (fc : Nat) (hp : tmps.getD 2 undef = .pointer (some ⟨r0, 0, none⟩)) : (results Tryd.f62 tmps).run Tryd.prog (((((wz.setCell ⟨r0, 0, none⟩ (.int .i64 t.kind)).setCell ⟨r0, 1, none⟩ (.int .i64 t.elem)).setCell ⟨r0, 2, none⟩ (.int .i64 t.key)).setCell ⟨r0, 3, none⟩ (.int .i64 t.len)).setCell ⟨r0, 4, none⟩ (.slice fa t.fields.length fc)) = .ok (tyVal t fa fc) (((((wz.setCell ⟨r0, 0, none⟩ (.int .i64 t.kind)).setCell ⟨r0, 1, none⟩ (.int .i64 t.elem)).setCell ⟨r0, 2, none⟩ (.int .i64 t.key)).setCell ⟨r0, 3, none⟩ (.int .i64 t.len)).setCell ⟨r0, 4, none⟩ (.slice fa t.fields.length fc)) :=
  results_cell_row rfl _ _ r0 48 _ (0, 0) _ hp (set5w hz t fa fc) Tryd.underlying48 rfl (zero_of_info zero48).2

theorem Ext.on1 {S : List Nat} {a b c : World} (h : Ext [] a b) (k : Ext S b c) : Ext S a c := (h.mono (by simp)).trans k

set_option maxRecDepth 100000 in
set_option maxHeartbeats 4000000 in
theorem one_any (p : Nat) (a : Option Addr) (L : List Int) (n c at_ : Nat) (w : World) (hR : Rdf w p a n c at_ false) (hS : Src w p a n c L) (ha : at_ ≤ n) :
    Calls Tryd.prog 62 #[.pointer (some ⟨p, 0, none⟩)] w (OneOut w p a n c (rdOne L at_)) := by
  obtain ⟨hz48, _⟩ := zero_of_info zero48
  have hpl : p < w.heap.size := lt_of_heap hR
  have hE0 := Ext.alloc [] w (.cells #[.int .i64 0, .int .i64 0, .int .i64 0, .int .i64 0, .slice none 0 0] 48)
  have hR0 := hR.keep hE0 (by simp)
  have K := int_any p a L n c at_ false _ hR0 (hS.keep hE0 (by simp)) ha
  have hres : OneAt (w.alloc (.cells #[.int .i64 0, .int .i64 0, .int .i64 0, .int .i64 0, .slice none 0 0] 48)) w.heap.size ⟨0, 0, 0, 0, []⟩ none 0 := heap_alloc_new w _
  have HRes := hid hres
  obtain ⟨c0, c1, c2, hf⟩ := hR0.cells
  have HS := hid hS
  have HE0 := hid hE0
  have hbd := numR_bd L at_ false n ha hS.hn
  clear hR hS hE0 hR0 hres
  go_enter Tryd.func62, Tryd.ntmps62
  go_wp2_with fail
  refine K.mono ?_
  clear K
  rintro e w1 ⟨rfl, hR1, hE1⟩
  have HRd : Hid (Rdf w1 p a n c (numR L at_ false).2.1 (numR L at_ false).2.2) := hR1
  have hres1 := HRes.out.keep hE1 (by simp; omega)
  have HE1 := hid (HE0.out.on1 hE1)
  have hpl1 : w.heap.size < w1.heap.size := lt_of_heap hres1
  have hE2 := fun o => Ext.alloc [] w1 o
  have HRes1 := hid hres1
  have HNo : Hid ((numR L at_ false).2.2 = true → rdN L at_ = none ∧ numR L at_ false = (0, at_, true)) := numR_no
  have HYes : Hid ((numR L at_ false).2.2 = false → rdN L at_ = some ((numR L at_ false).1, (numR L at_ false).2.1)) := numR_yes
  obtain ⟨hb0, hb1, hb2⟩ := hbd
  generalize numR L at_ false = r at *
  obtain ⟨kv, b1, f1⟩ := r
  simp only at hb0 hb1 hb2 HNo HYes HRd ⊢
  clear hR1 hE1 hres1 HE0 HRes c0 c1 c2 hf
  have HNew : Hid (OneAt (w1.alloc (.cells #[.int .i64 kv, .int .i64 0, .int .i64 0, .int .i64 0, .slice none 0 0] 48)) w1.heap.size ⟨kv, 0, 0, 0, []⟩ none 0) := heap_alloc_new w1 _
  have hE2 := Ext.alloc [] w1 (.cells #[.int .i64 kv, .int .i64 0, .int .i64 0, .int .i64 0, .slice none 0 0] 48)
  have HR2 := hid (HRd.out.keep hE2 (by simp))
  have HRes2 := hid (HRes1.out.keep hE2 (by simp))
  have HE2 := hid (HE1.out.trans (hE2.mono (by simp)))
  have hpl2 : p < w1.heap.size := by omega
  have hql2 : w1.heap.size < (w1.alloc (.cells #[.int .i64 kv, .int .i64 0, .int .i64 0, .int .i64 0, .slice none 0 0] 48)).heap.size := by simp
  clear hE2
  go_upto_region 3 with fail
  generalize w1.alloc (.cells #[.int .i64 kv, .int .i64 0, .int .i64 0, .int .i64 0, .slice none 0 0] 48) = w2 at *
  obtain ⟨m0, m1, m2, m3, m4, mf⟩ := HNew.out.cells
  obtain ⟨d0, d1, d2, d3, d4, df⟩ := HRes2.out.cells
  simp only at m0 m1 m2 m3 m4 d0 d1 d2 d3 d4
  by_cases hback : f1 = true ∨ ¬ (1 ≤ kv ∧ kv ≤ 10)
  · -- the kind is at fault
    have HO : Hid (rdOne L at_ = .bad (if f1 then b1 else at_)) := by
      show _ = _
      rw [rdOne_rest]
      cases f1
      · have h := HYes.out rfl
        have hk : ¬ (1 ≤ kv ∧ kv ≤ 10) := by rcases hback with h | h; cases h; exact h
        unfold rdKind
        rw [h]; simp only; rw [if_neg hk]; rfl
      · obtain ⟨h1, h2⟩ := HNo.out rfl
        simp only [Prod.mk.injEq] at h2
        unfold rdKind
        rw [h1, h2.2.1]; rfl
    have HB : Hid ((if f1 then b1 else at_) ≤ n) := by show _ ≤ _; split <;> omega
    have hkk : kv ≤ 0 ∨ 10 < kv := by
      rcases hback with h | h
      · subst h
        have := (HNo.out rfl).2
        simp only [Prod.mk.injEq] at this
        left; omega
      · omega
    have hq1 : (kv == 1) = false := beq_false_of_ne (by omega)
    have hq2 : (kv == 2) = false := beq_false_of_ne (by omega)
    have hq3 : (kv == 3) = false := beq_false_of_ne (by omega)
    have hq4 : (kv == 4) = false := beq_false_of_ne (by omega)
    have hq5 : (kv == 5) = false := beq_false_of_ne (by omega)
    have hq6 : (kv == 6) = false := beq_false_of_ne (by omega)
    have hq7 : (kv == 7) = false := beq_false_of_ne (by omega)
    have hq8 : (kv == 8) = false := beq_false_of_ne (by omega)
    have hq9 : (kv == 9) = false := beq_false_of_ne (by omega)
    have hq10 : (kv == 10) = false := beq_false_of_ne (by omega)
    have K := back_any p a n c b1 at_ f1 _ HR2.out
    generalize (if f1 then b1 else at_) = bx at *
    clear hback hkk HNo HYes
    go_wp2_with fail
    refine K.mono ?_
    clear K
    rintro e w3 ⟨rfl, hR3, hE3⟩
    have hone3 := HNew.out.keep hE3 (by simp; omega)
    have hres3 := HRes2.out.keep hE3 (by simp; omega)
    obtain ⟨c0, c1, c2, c3, c4, cf⟩ := hone3.cells
    obtain ⟨d0, d1, d2, d3, d4, df⟩ := hres3.cells
    have HR3 := hid hR3
    have HRes3 := hid hres3
    have HE3 := hid (HE2.out.trans hE3)
    clear hR3 hE3 hone3 hres3
    go_wp2_with fail
    refine bodyPost_ret (ret48 HRes3.out ⟨kv, 0, 0, 0, []⟩ none 0 rfl) rfl (one_fin (t := ⟨kv, 0, 0, 0, []⟩) HRes3.out HR3.out HB.out (own_nil _ _ _ _) (by simp) (by simp) (fun _ => HO.out) HE3.out (by omega))
  · obtain ⟨hf1, hk0, hk1⟩ : f1 = false ∧ 1 ≤ kv ∧ kv ≤ 10 := by
      cases f1
      · exact ⟨rfl, by omega, by omega⟩
      · simp at hback
    subst hf1
    have HKd : Hid (rdKind L at_ = .good kv b1) := by
      show _ = _
      unfold rdKind
      rw [HYes.out rfl]; simp only; rw [if_pos ⟨hk0, hk1⟩]
    have HSr := fun W (h : Ext [p] w W) => HS.out.keep1 h
    have HHSr := hid HSr
    clear hback HNo HYes HSr
    have hkc : (kv = 1 ∨ kv = 2 ∨ kv = 3 ∨ kv = 4 ∨ kv = 7) ∨ (kv = 5 ∨ kv = 10) ∨ kv = 6 ∨ kv = 8 ∨ kv = 9 := by omega
    rcases hkc with hkc | hkc | hkc | hkc | hkc
    · have HO : Hid (rdOne L at_ = .good ⟨kv, 0, 0, 0, []⟩ b1) := by
        show _ = _
        unfold rdOne
        rw [HKd.out]; simp only
        rw [if_neg (by omega), if_neg (by omega), if_neg (by omega), if_neg (by omega)]
      have hq : (kv == 1) = true ∨ ((kv == 1) = false ∧ (kv == 2) = true) ∨ ((kv == 1) = false ∧ (kv == 2) = false ∧ (kv == 3) = true) ∨ ((kv == 1) = false ∧ (kv == 2) = false ∧ (kv == 3) = false ∧ (kv == 4) = true) ∨ ((kv == 1) = false ∧ (kv == 2) = false ∧ (kv == 3) = false ∧ (kv == 4) = false ∧ (kv == 7) = true) := by
        rcases hkc with h | h | h | h | h <;> rw [h] <;> decide
      clear hkc
      rcases hq with q1 | ⟨q1, q2⟩ | ⟨q1, q2, q3⟩ | ⟨q1, q2, q3, q4⟩ | ⟨q1, q2, q3, q4, q7⟩
      all_goals
        go_wp2_with fail
        refine bodyPost_ret (ret48 HRes2.out ⟨kv, 0, 0, 0, []⟩ none 0 rfl) rfl (one_fin (t := ⟨kv, 0, 0, 0, []⟩) HRes2.out HR2.out hb2 (own_nil _ _ _ _) (by simp) (fun _ => HO.out) (by simp) HE2.out (by omega))
    · -- an element
      have HO : Hid (rdOne L at_ = match rdNum L b1 with | .bad x => .bad x | .good e a2 => .good ⟨kv, e, 0, 0, []⟩ a2) := by
        show _ = _
        unfold rdOne
        rw [HKd.out]; simp only
        rw [if_pos hkc]
        cases rdNum L b1 <;> rfl
      have K := int_any p a L n c b1 false _ HR2.out (HHSr.out _ HE2.out) hb2
      have hbd3 := numR_bd L b1 false n hb2 HS.out.hn
      have HO2 : Hid (((numR L b1 false).2.2 = false → rdOne L at_ = .good ⟨kv, (numR L b1 false).1, 0, 0, []⟩ (numR L b1 false).2.1) ∧ ((numR L b1 false).2.2 = true → rdOne L at_ = .bad (numR L b1 false).2.1)) := by
        refine ⟨fun h => ?_, fun h => ?_⟩
        · rw [HO.out]; unfold rdNum; rw [numR_yes h]
        · obtain ⟨h1, h2⟩ := numR_no h
          rw [HO.out]; unfold rdNum; rw [h1, h2]
      generalize numR L b1 false = r3 at *
      obtain ⟨v3, b3, f3⟩ := r3
      obtain ⟨_, _, hb3⟩ := hbd3
      have HKv := hid hkc
      have hq1 : (kv == 1) = false := beq_false_of_ne (by omega)
      have hq2 : (kv == 2) = false := beq_false_of_ne (by omega)
      have hq3 : (kv == 3) = false := beq_false_of_ne (by omega)
      have hq4 : (kv == 4) = false := beq_false_of_ne (by omega)
      have hq7 : (kv == 7) = false := beq_false_of_ne (by omega)
      have hq5 : ((kv == 5) = true) ∨ ((kv == 5) = false ∧ (kv == 10) = true) := by
        rcases hkc with h | h
        · left; rw [h]; rfl
        · right; rw [h]; exact ⟨rfl, rfl⟩
      clear hkc
      rcases hq5 with hq5 | ⟨hq5, hq10⟩
      all_goals
        go_wp2_with fail
        refine K.mono ?_
        clear K
        rintro e w3 ⟨rfl, hR3, hE3⟩
        have hone3 := HNew.out.keep hE3 (by simp; omega)
        have hres3 := HRes2.out.keep hE3 (by simp; omega)
        have HE3 := hid (HE2.out.trans hE3)
        simp only at hR3
        obtain ⟨c0, c1, c2, c3, c4, cf⟩ := hone3.cells
        obtain ⟨d0, d1, d2, d3, d4, df⟩ := hres3.cells
        have hS4 := Ext.setCell [w1.heap.size] w3 ⟨w1.heap.size, 1, none⟩ (.int .i64 v3) (by simp)
        have HR4 := hid (hR3.keep hS4 (by simp; omega))
        have HRes4 := hid (hres3.keep hS4 (by simp; omega))
        have HE4 : Hid (Ext [p] w (w3.setCell ⟨w1.heap.size, 1, none⟩ (.int .i64 v3))) := ((HE3.out.mono (T := [p, w1.heap.size]) (by simp)).trans (hS4.mono (by simp))).drop (by simp; omega)
        clear hR3 hE3 hone3 hres3 hS4
        go_wp2_with fail
        refine bodyPost_ret (ret48 HRes4.out ⟨kv, v3, 0, 0, []⟩ none 0 rfl) rfl (one_fin (t := ⟨kv, v3, 0, 0, []⟩) HRes4.out HR4.out hb3 (own_nil _ _ _ _) (by simp) HO2.out.1 HO2.out.2 HE4.out (by omega))
    · -- kind 6
      have HO : Hid (rdOne L at_ = two L b1 (fun y e => ⟨kv, e, y, 0, []⟩)) := by
        show _ = _
        unfold rdOne two
        rw [HKd.out]; simp only
        rw [if_neg (by omega), if_pos hkc]
        cases rdNum L b1 with
        | bad x => rfl
        | good y a2 => simp only; cases rdNum L a2 <;> rfl
      have HTw := hid (two_eq L b1 (fun y e => ⟨kv, e, y, 0, []⟩))
      rw [← HO.out] at HTw
      have K := int_any p a L n c b1 false _ HR2.out (HHSr.out _ HE2.out) hb2
      have hbd3 := numR_bd L b1 false n hb2 HS.out.hn
      generalize numR L b1 false = r3 at *
      obtain ⟨v3, b3, f3⟩ := r3
      obtain ⟨_, _, hb3⟩ := hbd3
      simp only at hb3 HTw
      clear HO
      have hq1 : (kv == 1) = false := beq_false_of_ne (by omega)
      have hq2 : (kv == 2) = false := beq_false_of_ne (by omega)
      have hq3 : (kv == 3) = false := beq_false_of_ne (by omega)
      have hq4 : (kv == 4) = false := beq_false_of_ne (by omega)
      have hq7 : (kv == 7) = false := beq_false_of_ne (by omega)
      have hq5 : (kv == 5) = false := beq_false_of_ne (by omega)
      have hq10 : (kv == 10) = false := beq_false_of_ne (by omega)
      have hq6 : (kv == 6) = true := by rw [hkc]; rfl
      clear hkc
      go_wp2_with fail
      refine K.mono ?_
      clear K
      rintro e w3 ⟨rfl, hR3, hE3⟩
      have hone3 := HNew.out.keep hE3 (by simp; omega)
      have hres3 := HRes2.out.keep hE3 (by simp; omega)
      have HE3 := hid (HE2.out.trans hE3)
      simp only at hR3
      obtain ⟨c0, c1, c2, c3, c4, cf⟩ := hone3.cells
      have hS4 := Ext.setCell [w1.heap.size] w3 ⟨w1.heap.size, 2, none⟩ (.int .i64 v3) (by simp)
      have hR4 := hR3.keep hS4 (by simp; omega)
      have hres4 := hres3.keep hS4 (by simp; omega)
      have hone4 := (hone3.put 0 (by omega) v3).1
      have hql4 : w1.heap.size < (w3.setCell ⟨w1.heap.size, 2, none⟩ (.int .i64 v3)).heap.size := lt_of_heap hone4
      have HE4 : Hid (Ext [p] w (w3.setCell ⟨w1.heap.size, 2, none⟩ (.int .i64 v3))) := ((HE3.out.mono (T := [p, w1.heap.size]) (by simp)).trans (hS4.mono (by simp))).drop (by simp; omega)
      have K5 := int_any p a L n c b3 f3 _ hR4 (HHSr.out _ HE4.out) hb3
      have hbd5 := numR_bd L b3 f3 n hb3 HS.out.hn
      generalize numR L b3 f3 = r5 at *
      obtain ⟨v5, b5, f5⟩ := r5
      obtain ⟨_, _, hb5⟩ := hbd5
      simp only at hb5 HTw
      have HOne4 := hid hone4
      have HRes4 := hid hres4
      clear hR3 hE3 hone3 hres3 hS4 hR4 hres4 hone4
      go_wp2_with fail
      refine K5.mono ?_
      clear K5
      rintro e w5 ⟨rfl, hR5, hE5⟩
      have hone5 := HOne4.out.keep hE5 (by simp; omega)
      have hres5 := HRes4.out.keep hE5 (by simp; omega)
      have HE5 := hid (HE4.out.trans hE5)
      simp only at hR5
      obtain ⟨n0, n1, n2, n3, n4, nf⟩ := hone5.cells
      simp only [setP] at n0 n1 n2 n3 n4
      obtain ⟨e0, e1, e2, e3, e4, ef⟩ := hres5.cells
      have hS6 := Ext.setCell [w1.heap.size] w5 ⟨w1.heap.size, 1, none⟩ (.int .i64 v5) (by simp)
      have HR6 := hid (hR5.keep hS6 (by simp; omega))
      have HRes6 := hid (hres5.keep hS6 (by simp; omega))
      have HE6 : Hid (Ext [p] w (w5.setCell ⟨w1.heap.size, 1, none⟩ (.int .i64 v5))) := ((HE5.out.mono (T := [p, w1.heap.size]) (by simp)).trans (hS6.mono (by simp))).drop (by simp; omega)
      clear hR5 hE5 hone5 hres5 hS6 c0 c1 c2 c3 c4 cf m0 m1 m2 m3 m4 mf d0 d1 d2 d3 d4 df
      go_wp2_with fail
      refine bodyPost_ret (ret48 HRes6.out ⟨kv, v5, v3, 0, []⟩ none 0 rfl) rfl (one_fin (t := ⟨kv, v5, v3, 0, []⟩) HRes6.out HR6.out hb5 (own_nil _ _ _ _) (by simp) HTw.out.1 HTw.out.2 HE6.out (by omega))
    · -- kind 8
      obtain ⟨O, hO⟩ : ∃ O, O = rdOne L at_ := ⟨_, rfl⟩
      have HO : Hid (O = match rdNum L b1 with | .bad x => .bad x | .good v a2 => thenF kv (rdFields L v.toNat a2 [])) := by
        show _ = _
        rw [hO]
        unfold rdOne
        rw [HKd.out]; simp only
        rw [if_neg (by omega), if_neg (by omega), if_pos hkc]
        cases rdNum L b1 with
        | bad x => rfl
        | good v a2 => simp only; cases rdFields L v.toNat a2 [] <;> rfl
      have HOeq := hid hO
      have K := int_any p a L n c b1 false _ HR2.out (HHSr.out _ HE2.out) hb2
      have hbd3 := numR_bd L b1 false n hb2 HS.out.hn
      have HO2 : Hid (((numR L b1 false).2.2 = false → thenF kv (rdFields L (numR L b1 false).1.toNat (numR L b1 false).2.1 []) = O) ∧ ((numR L b1 false).2.2 = true → O = .bad (numR L b1 false).2.1)) := by
        refine ⟨fun h => ?_, fun h => ?_⟩
        · rw [HO.out]; unfold rdNum; rw [numR_yes h]
        · obtain ⟨h1, h2⟩ := numR_no h
          rw [HO.out]; unfold rdNum; rw [h1, h2]
      generalize numR L b1 false = r3 at *
      obtain ⟨v3, b3, f3⟩ := r3
      obtain ⟨hv0, hv1, hb3⟩ := hbd3
      simp only at hv0 hv1 hb3 HO2
      obtain ⟨mm, rfl⟩ : ∃ mm : Nat, v3 = mm := ⟨v3.toNat, by omega⟩
      have hq1 : (kv == 1) = false := beq_false_of_ne (by omega)
      have hq2 : (kv == 2) = false := beq_false_of_ne (by omega)
      have hq3 : (kv == 3) = false := beq_false_of_ne (by omega)
      have hq4 : (kv == 4) = false := beq_false_of_ne (by omega)
      have hq7 : (kv == 7) = false := beq_false_of_ne (by omega)
      have hq5 : (kv == 5) = false := beq_false_of_ne (by omega)
      have hq10 : (kv == 10) = false := beq_false_of_ne (by omega)
      have hq6 : (kv == 6) = false := beq_false_of_ne (by omega)
      have hq8 : (kv == 8) = true := by rw [hkc]; rfl
      clear hkc HO hO
      go_wp2_with fail
      refine K.mono ?_
      clear K
      rintro e w3 ⟨rfl, hR3, hE3⟩
      have HF3 : Hid (FldT w p w1.heap.size a n c L kv O mm 0 w3 b3 f3 [] none 0) := ⟨HE2.out.trans hE3, hR3, hb3, rfl, HNew.out.keep hE3 (by simp; omega), HRes2.out.keep hE3 (by simp; omega), own_nil _ _ _ _, HO2.out.1, HO2.out.2⟩
      clear hR3 hE3 m0 m1 m2 m3 m4 mf d0 d1 d2 d3 d4 df
      go_wp2_with fail
      go_loopg [6] mm (fun g u wy => ∃ i b f fs fa fc, i + g = mm ∧ u = .int .i64 (i : Nat) ∧ FldT w p w1.heap.size a n c L kv O g i wy b f fs fa fc)
      case atStart => exact ⟨0, b3, f3, [], none, 0, by omega, rfl, HF3.out⟩
      case round =>
        clear HF3
        obtain ⟨i, b6, f6, fs, fa6, fc6, hig, rfl, hFl⟩ := hrel
        obtain ⟨wy, hwy⟩ : ∃ x, x = wr := ⟨_, rfl⟩
        subst hwy
        have HFl := hid hFl
        obtain ⟨d0, d1, d2, df⟩ := hFl.rdf.cells
        obtain ⟨n0, n1, n2, n3, n4, nf⟩ := hFl.one.cells
        obtain ⟨e0, e1, e2, e3, e4, ef⟩ := hFl.res.cells
        simp only at n0 n1 n2 n3 n4 e0 e1 e2 e3 e4
        have n4' : wy.cell? ⟨w1.heap.size, 4, none⟩ = some (.slice fa6 i fc6) := by rw [n4, hFl.len]
        have HLn := hid hFl.len
        have hrw : wy.ownsRow w.heap.size 3 1 (.slice fa6 fs.length fc6) fs.length (fs.map (.int .i64)) := by
          have h := hFl.row
          rw [← hFl.len] at h
          exact h
        have HRw := hid hrw
        clear hFl n4 hrw
        by_cases hgo : i < mm ∧ f6 = false
        · obtain ⟨him, rfl⟩ := hgo
          obtain ⟨g6, rfl⟩ : ∃ g6, gk = g6 + 1 := ⟨gk - 1, by omega⟩
          have hbd7 := numR_bd L b6 false n HFl.out.le HS.out.hn
          have HK7 : Hid (∀ W, Ext [] wy W → Calls Tryd.prog 61 #[.pointer (some ⟨p, 0, none⟩)] W (NufPost .i64 W p a n c (numR L b6 false))) := fun W h => int_any p a L n c b6 false W (HFl.out.rdf.keep h (by simp)) (HHSr.out _ (HFl.out.ext.trans (h.mono (by simp)))) HFl.out.le
          have HG7 : Hid (((numR L b6 false).2.2 = false → thenF kv (rdFields L g6 (numR L b6 false).2.1 (fs ++ [(numR L b6 false).1])) = O) ∧ ((numR L b6 false).2.2 = true → O = .bad (numR L b6 false).2.1)) := by
            refine ⟨fun h => ?_, fun h => ?_⟩
            · rw [← HFl.out.good rfl, rdFields, numR_yes h]
            · obtain ⟨h1, h2⟩ := numR_no h
              rw [← HFl.out.good rfl, rdFields, h1, h2]; rfl
          generalize numR L b6 false = r7 at *
          obtain ⟨v7, b7, f7⟩ := r7
          obtain ⟨_, _, hb7⟩ := hbd7
          simp only at hb7 HG7 HK7
          obtain ⟨i3, hi3, hz0, hz1, hz2⟩ := info_parts info3
          have HI := hid hi3
          have HZ0 := hid hz0
          clear hi3 hz0
          go_wp2_with fail
          go_region_law (first
              | (refine step_append_lies _ (by rfl) _ _ _ (by rfl) w.heap.size 3 i3 _ 1 8 Tryd.underlying45 HI.out HZ0.out hz1 hz2 rfl (by decide) (.slice fa6 i fc6) i (fs.map (.int .i64)) (by rfl) hO7 ⟨w7.heap.size, 0, none⟩ 1 1 [.int .i64 v7] (by rfl) (by rfl) (by intro j u hu; have hj : j = 0 := (by have := (List.getElem?_eq_some_iff.1 hu).1; simpa using this); subst hj; rw [Addr.add_lit, cell_of_row _ _ _ _ _ _ (heap_alloc_new w7 _)]; simpa using hu) (by intro u hu; simp at hu; subst hu; rfl) (by omega) (by unfold maxLen; omega) (by omega) (by have := (HFl.out.ext.trans hX7).size; simp; omega) _ rfl ?_; intro g8 cap8 w8 hO8 hgrow hat hlt8; have hX8 : Ext (Value.slice fa6 i fc6).ownBlock.toList (w7.alloc (.cells #[.int .i64 v7] 3)) w8 := Ext.grown hgrow (by intro q hq; simp [hq]); have hone8 : OneAt w8 w1.heap.size ⟨kv, 0, 0, 0, fs⟩ fa6 fc6 := ((HFl.out.one.keep hX7 (by simp; omega)).keep (Ext.alloc [] _ _) (by simp)).keep hX8 (by simpa using own_ne hO7 ((HFl.out.one.keep hX7 (by simp; omega)).keep (Ext.alloc [] _ _) (by simp)) (by decide)); have k4 := hone8.cells.2.2.2.2.1; have kf := hone8.cells.2.2.2.2.2; clear hgrow hat hlt8)
              | (go_simp; go_wp2_with (first | (have := HK7; go_at_call 61; refine (HK7.out _ (Ext.drew [] _)).mono ?_; clear HK7; rintro e w7 ⟨rfl, hR7, hE7⟩; have hX7 : Ext [p] wy w7 := (Ext.drew [p] _).trans hE7; have hO7 : (w7.alloc (.cells #[.int .i64 v7] 3)).ownsRow w.heap.size 3 1 (.slice fa6 i fc6) i (fs.map (.int .i64)) := own_keep0 (own_keep HFl.out.row hX7 (by simpa using own_ne HFl.out.row HFl.out.rdf (by decide))) (Ext.alloc [] _ _); have g4 : w7.cell? ⟨w1.heap.size, 4, none⟩ = some (.slice fa6 i fc6) := hX7.cell n4' (by simp; omega); have hlt7 : w1.heap.size < w7.heap.size := lt_of_heap (HFl.out.one.keep hX7 (by simp; omega))))))
          all_goals
            have hE9 := Ext.setCell [w1.heap.size] w8 ⟨w1.heap.size, 4, none⟩ (.slice (some ⟨g8, 0, none⟩) (i + 1) cap8) (by simp)
            have hR8 : Rdf w8 p a n c b7 f7 := (hR7.keep (Ext.alloc [] _ _) (by simp)).keep hX8 (by simpa using own_ne hO7 (hR7.keep (Ext.alloc [] _ _) (by simp)) (by decide))
            have hRes8 : OneAt w8 w.heap.size ⟨0, 0, 0, 0, []⟩ none 0 := ((HFl.out.res.keep hX7 (by simp; omega)).keep (Ext.alloc [] _ _) (by simp)).keep hX8 (by simpa using own_ne hO7 ((HFl.out.res.keep hX7 (by simp; omega)).keep (Ext.alloc [] _ _) (by simp)) (by decide))
            have hE8 : Ext [p] w w8 := by
              refine (((HFl.out.ext.trans (hX7.trans ((Ext.alloc [] _ _).mono (by simp)))).mono (T := p :: (Value.ownBlock (.slice fa6 i fc6)).toList) (by simp)).trans (hX8.mono (fun x hx => List.mem_cons_of_mem _ hx))).drop ?_
              intro x hx
              rcases List.mem_cons.1 hx with h | h
              · left; simp [h]
              · right; exact (own_lt hO7 x (by simpa using h)).1
            have HF9 : Hid (FldT w p w1.heap.size a n c L kv O g6 (i + 1) (w8.setCell ⟨w1.heap.size, 4, none⟩ (.slice (some ⟨g8, 0, none⟩) (i + 1) cap8)) b7 f7 (fs ++ [v7]) (some ⟨g8, 0, none⟩) cap8) := by
              refine ⟨((hE8.mono (T := [p, w1.heap.size]) (by simp)).trans (hE9.mono (by simp))).drop (by simp; omega), hR8.keep hE9 (by simp; omega), hb7, by simp [HLn.out], hone8.putF (fs ++ [v7]) (i + 1) (by simp [HLn.out]), hRes8.keep hE9 (by simp; omega), ?_, HG7.out.1, HG7.out.2⟩
              have := own_keep hO8 hE9 (by simpa using own_ne hO8 hone8 (by decide))
              simpa using this
            clear hE9 hR8 hRes8 hE8 hR7 hE7 hX7 hO7 g4 hlt7 hO8 hX8 hone8 k4 kf
            go_wp2_with fail
            go_roundg g6
            case measure => omega
            case rel => exact ⟨i + 1, b7, f7, fs ++ [v7], _, _, by omega, by go_num, HF9.out⟩
        · have HFin : Hid (i = mm ∨ f6 = true) := by
            show _ ∨ _
            cases f6
            · left; have : ¬ i < mm := fun h => hgo ⟨h, rfl⟩
              omega
            · right; rfl
          have HLast : Hid ((f6 = false → O = .good ⟨kv, 0, 0, 0, fs⟩ b6) ∧ (f6 = true → O = .bad b6)) := by
            refine ⟨fun h => ?_, HFl.out.bad⟩
            have hi : i = mm := by
              rcases HFin.out with h1 | h1
              · exact h1
              · rw [h] at h1; cases h1
            have hg0 : gk = 0 := by omega
            subst hg0
            rw [← HFl.out.good h]; rfl
          have HFin2 : Hid (OneOut w p a n c O (.returned (tyVal ⟨kv, 0, 0, 0, fs⟩ fa6 fc6)) (((((wy.setCell ⟨w.heap.size, 0, none⟩ (.int .i64 kv)).setCell ⟨w.heap.size, 1, none⟩ (.int .i64 0)).setCell ⟨w.heap.size, 2, none⟩ (.int .i64 0)).setCell ⟨w.heap.size, 3, none⟩ (.int .i64 0)).setCell ⟨w.heap.size, 4, none⟩ (.slice fa6 i fc6))) := by
            rw [← HLn.out]
            exact one_fin (t := ⟨kv, 0, 0, 0, fs⟩) HFl.out.res HFl.out.rdf HFl.out.le HRw.out (by show fs.length ≤ _; rw [HLn.out]; omega) HLast.out.1 HLast.out.2 HFl.out.ext (by omega)
          have HRt := fun tm hp => ret48 (tmps := tm) HFl.out.res ⟨kv, 0, 0, 0, fs⟩ fa6 fc6 hp
          simp only [HLn.out] at HRt
          have HHRt := hid HRt
          clear HRt hgo
          rcases HFin.out with hi | hf
          · have hii : ¬ ((i : Int) < mm) := by omega
            clear hi
            go_wp2_with fail
            refine bodyPost_ret (HHRt.out _ rfl) rfl (by rw [← HOeq.out]; exact HFin2.out)
          · subst hf
            by_cases him : i < mm
            · go_wp2_with fail
              refine bodyPost_ret (HHRt.out _ rfl) rfl (by rw [← HOeq.out]; exact HFin2.out)
            · go_wp2_with fail
              refine bodyPost_ret (HHRt.out _ rfl) rfl (by rw [← HOeq.out]; exact HFin2.out)
    · -- kind 9
      have HO : Hid (rdOne L at_ = two L b1 (fun y e => ⟨kv, y, 0, e, []⟩)) := by
        show _ = _
        unfold rdOne two
        rw [HKd.out]; simp only
        rw [if_neg (by omega), if_neg (by omega), if_neg (by omega), if_pos hkc]
        cases rdNum L b1 with
        | bad x => rfl
        | good y a2 => simp only; cases rdNum L a2 <;> rfl
      have HTw := hid (two_eq L b1 (fun y e => ⟨kv, y, 0, e, []⟩))
      rw [← HO.out] at HTw
      have K := int_any p a L n c b1 false _ HR2.out (HHSr.out _ HE2.out) hb2
      have hbd3 := numR_bd L b1 false n hb2 HS.out.hn
      generalize numR L b1 false = r3 at *
      obtain ⟨v3, b3, f3⟩ := r3
      obtain ⟨_, _, hb3⟩ := hbd3
      simp only at hb3 HTw
      clear HO
      have hq1 : (kv == 1) = false := beq_false_of_ne (by omega)
      have hq2 : (kv == 2) = false := beq_false_of_ne (by omega)
      have hq3 : (kv == 3) = false := beq_false_of_ne (by omega)
      have hq4 : (kv == 4) = false := beq_false_of_ne (by omega)
      have hq7 : (kv == 7) = false := beq_false_of_ne (by omega)
      have hq5 : (kv == 5) = false := beq_false_of_ne (by omega)
      have hq10 : (kv == 10) = false := beq_false_of_ne (by omega)
      have hq6 : (kv == 6) = false := beq_false_of_ne (by omega)
      have hq8 : (kv == 8) = false := beq_false_of_ne (by omega)
      have hq9 : (kv == 9) = true := by rw [hkc]; rfl
      clear hkc
      go_wp2_with fail
      refine K.mono ?_
      clear K
      rintro e w3 ⟨rfl, hR3, hE3⟩
      have hone3 := HNew.out.keep hE3 (by simp; omega)
      have hres3 := HRes2.out.keep hE3 (by simp; omega)
      have HE3 := hid (HE2.out.trans hE3)
      simp only at hR3
      obtain ⟨c0, c1, c2, c3, c4, cf⟩ := hone3.cells
      have hS4 := Ext.setCell [w1.heap.size] w3 ⟨w1.heap.size, 1, none⟩ (.int .i64 v3) (by simp)
      have hR4 := hR3.keep hS4 (by simp; omega)
      have hres4 := hres3.keep hS4 (by simp; omega)
      have hone4 := (hone3.put 1 (by omega) v3).1
      have hql4 : w1.heap.size < (w3.setCell ⟨w1.heap.size, 1, none⟩ (.int .i64 v3)).heap.size := lt_of_heap hone4
      have HE4 : Hid (Ext [p] w (w3.setCell ⟨w1.heap.size, 1, none⟩ (.int .i64 v3))) := ((HE3.out.mono (T := [p, w1.heap.size]) (by simp)).trans (hS4.mono (by simp))).drop (by simp; omega)
      have K5 := int_any p a L n c b3 f3 _ hR4 (HHSr.out _ HE4.out) hb3
      have hbd5 := numR_bd L b3 f3 n hb3 HS.out.hn
      generalize numR L b3 f3 = r5 at *
      obtain ⟨v5, b5, f5⟩ := r5
      obtain ⟨_, _, hb5⟩ := hbd5
      simp only at hb5 HTw
      have HOne4 := hid hone4
      have HRes4 := hid hres4
      clear hR3 hE3 hone3 hres3 hS4 hR4 hres4 hone4
      go_wp2_with fail
      refine K5.mono ?_
      clear K5
      rintro e w5 ⟨rfl, hR5, hE5⟩
      have hone5 := HOne4.out.keep hE5 (by simp; omega)
      have hres5 := HRes4.out.keep hE5 (by simp; omega)
      have HE5 := hid (HE4.out.trans hE5)
      simp only at hR5
      obtain ⟨n0, n1, n2, n3, n4, nf⟩ := hone5.cells
      simp only [setP] at n0 n1 n2 n3 n4
      obtain ⟨e0, e1, e2, e3, e4, ef⟩ := hres5.cells
      have hS6 := Ext.setCell [w1.heap.size] w5 ⟨w1.heap.size, 3, none⟩ (.int .i64 v5) (by simp)
      have HR6 := hid (hR5.keep hS6 (by simp; omega))
      have HRes6 := hid (hres5.keep hS6 (by simp; omega))
      have HE6 : Hid (Ext [p] w (w5.setCell ⟨w1.heap.size, 3, none⟩ (.int .i64 v5))) := ((HE5.out.mono (T := [p, w1.heap.size]) (by simp)).trans (hS6.mono (by simp))).drop (by simp; omega)
      clear hR5 hE5 hone5 hres5 hS6 c0 c1 c2 c3 c4 cf m0 m1 m2 m3 m4 mf d0 d1 d2 d3 d4 df
      go_wp2_with fail
      refine bodyPost_ret (ret48 HRes6.out ⟨kv, v3, 0, v5, []⟩ none 0 rfl) rfl (one_fin (t := ⟨kv, v3, 0, v5, []⟩) HRes6.out HR6.out hb5 (own_nil _ _ _ _) (by simp) HTw.out.1 HTw.out.2 HE6.out (by omega))

end Go.Proofs.YtfjbhpjgidgjaaaDoor
