/-
  How the program reads a table; no statement is proved here.
-/
import Derived.Test.YtfjbhpjgidgjaaaDoorRdr
import Derived.Test.YtfjbhpjgidgjaaaDoorHas
import Derived.Deep.LoopGhost
import Derived.WalkMore
namespace Go.Proofs.YtfjbhpjgidgjaaaDoor
open Go.RowKit

def setP (t : Ty) (j : Nat) (v : Int) : Ty := if j = 0 then { t with key := v } else if j = 1 then { t with elem := v } else { t with len := v }

/-- The parts that are left of a type of kind k. -/
def restP (L : List Int) (k : Int) : Nat → Ty → Nat → Rd Ty
  | 0, t, a => .good t a
  | r + 1, t, a =>
    if has k (3 - r) then
      match rdNum L a with
      | .bad x => .bad x
      | .good v b =>
        if r = 0 then match rdFields L v.toNat b [] with | .bad x => .bad x | .good f d => restP L k r { t with fields := f } d
        else restP L k r (setP t (3 - r) v) b
    else restP L k r t a

theorem rdOne_rest (L : List Int) (a : Nat) : rdOne L a = match rdKind L a with | .bad x => .bad x | .good k a1 => restP L k 4 ⟨k, 0, 0, 0, []⟩ a1 := by
  unfold rdOne
  cases rdKind L a with
  | bad x => rfl
  | good k a1 =>
    simp only [restP, has, setP]
    by_cases h5 : k = 5 ∨ k = 10
    · have e : (k == 6) = false ∧ (k == 9) = false ∧ (k == 8) = false ∧ ((k == 5 || k == 6 || k == 9 || k == 10) = true) := by
        rcases h5 with rfl | rfl <;> decide
      simp only [h5, e, if_true]
      cases rdNum L a1 <;> simp
      all_goals omega
    · by_cases h6 : k = 6
      · subst h6
        simp
        cases rdNum L a1 with
        | bad x => rfl
        | good v b => simp only; cases rdNum L b <;> rfl
      · by_cases h8 : k = 8
        · subst h8
          simp
          cases rdNum L a1 with
          | bad x => rfl
          | good v b => simp only; cases rdFields L v.toNat b [] <;> rfl
        · by_cases h9 : k = 9
          · subst h9
            simp
            cases rdNum L a1 with
            | bad x => rfl
            | good v b => simp only; cases rdNum L b <;> rfl
          · have e5 : k ≠ 5 := fun h => h5 (.inl h)
            have e10 : k ≠ 10 := fun h => h5 (.inr h)
            simp [e5, e10, h6, h8, h9]

/-- A type of a block of its own. -/
def OneAt (w : World) (q : Nat) (t : Ty) (fa : Option Addr) (fc : Nat) : Prop := w.heap[q]? = some (.cells #[.int .i64 t.kind, .int .i64 t.elem, .int .i64 t.key, .int .i64 t.len, .slice fa t.fields.length fc] 48 (0, 0))

theorem OneAt.keep {S : List Nat} {w w' : World} {q : Nat} {t : Ty} {fa : Option Addr} {fc : Nat} (h : OneAt w q t fa fc) (e : Ext S w w') (hs : q ∉ S) : OneAt w' q t fa fc := Ext.keep e h hs
theorem OneAt.cells {w : World} {q : Nat} {t : Ty} {fa : Option Addr} {fc : Nat} (h : OneAt w q t fa fc) : w.cell? ⟨q, 0, none⟩ = some (.int .i64 t.kind) ∧ w.cell? ⟨q, 1, none⟩ = some (.int .i64 t.elem) ∧ w.cell? ⟨q, 2, none⟩ = some (.int .i64 t.key) ∧ w.cell? ⟨q, 3, none⟩ = some (.int .i64 t.len) ∧ w.cell? ⟨q, 4, none⟩ = some (.slice fa t.fields.length fc) ∧ ∀ i, w.frozen? ⟨q, i, none⟩ = false :=
  ⟨by rw [cell_of_row _ _ _ _ _ _ h]; rfl, by rw [cell_of_row _ _ _ _ _ _ h]; rfl, by rw [cell_of_row _ _ _ _ _ _ h]; rfl, by rw [cell_of_row _ _ _ _ _ _ h]; rfl, by rw [cell_of_row _ _ _ _ _ _ h]; rfl, fun i => frozen_of_row _ _ i _ _ h⟩
theorem OneAt.put {w : World} {q : Nat} {t : Ty} {fa : Option Addr} {fc : Nat} (h : OneAt w q t fa fc) (j : Nat) (hj : j ≤ 2) (v : Int) : OneAt (w.setCell ⟨q, slot j, none⟩ (.int .i64 v)) q (setP t j v) fa fc ∧ ∃ u, w.cell? ⟨q, slot j, none⟩ = some (.int .i64 u) := by
  obtain ⟨c0, c1, c2, c3, c4, _⟩ := h.cells
  rcases (by omega : j = 0 ∨ j = 1 ∨ j = 2) with rfl | rfl | rfl
  · exact ⟨by unfold OneAt; rw [heap_setCell_same w q _ _ _ _ h]; rfl, _, c2⟩
  · exact ⟨by unfold OneAt; rw [heap_setCell_same w q _ _ _ _ h]; rfl, _, c1⟩
  · exact ⟨by unfold OneAt; rw [heap_setCell_same w q _ _ _ _ h]; rfl, _, c3⟩
theorem OneAt.putF {w : World} {q : Nat} {t : Ty} {fa fb : Option Addr} {fc fd : Nat} (h : OneAt w q t fa fc) (f : List Int) (n : Nat) (hn : f.length = n) : OneAt (w.setCell ⟨q, 4, none⟩ (.slice fb n fd)) q { t with fields := f } fb fd := by
  unfold OneAt; rw [heap_setCell_same w q _ _ _ _ h, ← hn]; rfl

theorem zero92 : (Tryd.prog.info? 92).map (fun i => (i.zero, i.size)) = some (some (.agg #[.slice none 0 0, .int .i64 0, .bool false]), 3) := by kernel_rfl
theorem zero48 : (Tryd.prog.info? 48).map (fun i => (i.zero, i.size)) = some (some (.agg #[.int .i64 0, .int .i64 0, .int .i64 0, .int .i64 0, .slice none 0 0]), 5) := by kernel_rfl

/-- append of one number onto a slice of one's own. -/
theorem app1 (w : World) (base : Nat) (hbs : base ≤ w.heap.size) (fa : Option Addr) (k fc : Nat) (xs : List Value) (hown : w.ownsRow base 3 1 (.slice fa k fc) k xs) (g : Nat) (v : Int) (hc : w.cell? ⟨g, 0, none⟩ = some (.int .i64 v)) (hk : k ≤ 2147483648) :
    ∃ v' w', (Builtin.append_ #[45, 45] 45 #[.slice fa k fc, .slice (some ⟨g, 0, none⟩) 1 1]).run Tryd.prog w = .ok v' w' ∧ w'.ownsRow base 3 1 v' (k + 1) (xs ++ [.int .i64 v]) ∧ Ext (Value.ownBlock (.slice fa k fc)).toList w w' := by
  obtain ⟨i, hi0, hz0, hz1, hz2⟩ := info_parts info3
  obtain ⟨v', w', hr, ho, hg, _⟩ := run_append_own (P := Tryd.prog) w base 45 45 3 i _ 1 8 Tryd.underlying45 hi0 hz0 hz1 hz2 rfl (by decide) _ k xs hown ⟨g, 0, none⟩ 1 1 [.int .i64 v] (by simp) (fun j u hu => by
    have hj : j = 0 := by have := (List.getElem?_eq_some_iff.1 hu).1; simpa using this
    subst hj
    rw [Addr.add_lit, hc]; simpa using hu) (by intro u hu; simp at hu; subst hu; rfl) (by unfold maxLen; omega) (by omega) hbs
  exact ⟨v', w', hr, ho, Ext.grown hg (by intro k hk; simp [hk])⟩

/-- append of one type onto a slice of one's own. -/
theorem app5 (w : World) (base : Nat) (hbs : base ≤ w.heap.size) (lv : Value) (k : Nat) (xs : List Value) (hown : w.ownsRow base 48 5 lv k xs) (g : Nat) (t : Ty) (r : Option Addr × Nat) (hc : w.heap[g]? = some (.cells #[.int .i64 t.kind, .int .i64 t.elem, .int .i64 t.key, .int .i64 t.len, .slice r.1 t.fields.length r.2] 48 (0, 0))) (hk : k ≤ 2147483648) :
    ∃ v' w', (Builtin.append_ #[22, 22] 22 #[lv, .slice (some ⟨g, 0, none⟩) 1 1]).run Tryd.prog w = .ok v' w' ∧ w'.ownsRow base 48 5 v' (k + 1) (xs ++ tyRow t r) ∧ Ext lv.ownBlock.toList w w' := by
  obtain ⟨i, hi0, hz0, hz1, hz2⟩ := info_parts info48
  obtain ⟨v', w', hr, ho, hg, _⟩ := run_append_own (P := Tryd.prog) w base 22 22 48 i _ 5 56 Tryd.underlying22 hi0 hz0 hz1 hz2 rfl (by decide) _ k xs hown ⟨g, 0, none⟩ 1 1 (tyRow t r) rfl (fun j u hu => by
    rw [Addr.add_lit, cell_of_row _ _ _ _ _ _ hc, Nat.zero_add, ← hu]; simp [tyRow]) (by simp [tyRow, Value.oneCell']) (by unfold maxLen; omega) (by omega) hbs
  exact ⟨v', w', hr, ho, Ext.grown hg (by intro k hk; simp [hk])⟩

/-- No two types' fields lie in one row. -/
def Apt (ts : List Ty) (G : Nat → Option Addr × Nat) (k : Nat) : Prop := ∀ i j, i < k → j < k → i ≠ j → ∀ g, Value.ownBlock (.slice (G i).1 (tyAt ts i).fields.length (G i).2) = some g → Value.ownBlock (.slice (G j).1 (tyAt ts j).fields.length (G j).2) ≠ some g

/-- How far the reading of a table is. -/
structure OutS (w : World) (p : Nat) (a : Option Addr) (n c : Nat) (L : List Int) (T : Rd (List Ty)) (r k : Nat) (lv : Value) (wr : World) (at_ : Nat) (f : Bool) (xs : List Value) : Prop where
  row : wr.ownsRow w.heap.size 48 5 lv k xs
  good : f = false → ∃ acc G, acc.length = k ∧ xs = rows acc G k ∧ Fs w wr acc G k ∧ Apt acc G k ∧ rdMany L r at_ acc = T
  bad : f = true → T = .bad at_
  ext : Ext [] w wr
  rdr : Rdr wr p a n c at_ f
  le : at_ ≤ n

/-- How far the reading of a type is. -/
structure PartS (w1 : World) (p q : Nat) (a : Option Addr) (n c : Nat) (L : List Int) (kd : Int) (O : Rd Ty) (r : Nat) (wx : World) (at_ : Nat) (f : Bool) (t : Ty) (fa : Option Addr) (fc : Nat) : Prop where
  ext : Ext [p] w1 wx
  rdr : Rdr wx p a n c at_ f
  le : at_ ≤ n
  one : OneAt wx q t fa fc
  hk : t.kind = kd
  row : wx.ownsRow (w1.heap.size + 1) 3 1 (.slice fa t.fields.length fc) t.fields.length (t.fields.map (.int .i64))
  good : f = false → restP L kd r t at_ = O
  bad : f = true → O = .bad at_
  nof : 0 < r → t.fields = []

/-- How far the reading of a type's fields is. -/
structure FldS (w1 : World) (p q : Nat) (a : Option Addr) (n c : Nat) (L : List Int) (t : Ty) (F : Rd (List Int)) (r i : Nat) (wy : World) (at_ : Nat) (fs : List Int) (fa : Option Addr) (fc : Nat) : Prop where
  ext : Ext [p] w1 wy
  rdr : Rdr wy p a n c at_ false
  le : at_ ≤ n
  len : fs.length = i
  one : OneAt wy q { t with fields := fs } fa fc
  row : wy.ownsRow (w1.heap.size + 1) 3 1 (.slice fa i fc) i (fs.map (.int .i64))
  good : rdFields L r at_ fs = F

/-- What the reading of a table answers. -/
def RtPost (w : World) (L : List Int) (n : Nat) (e : Ending) (w' : World) : Prop :=
  Ext [] w w' ∧ match rdTab L with
  | .bad x => ∃ v, e = .returned (.tuple #[v, .int .i64 (x : Nat), .bool false])
  | .good ts x => ∃ a c G, e = .returned (.tuple #[.slice a ts.length c, .int .i64 (x : Nat), .bool (x == n)]) ∧ ts.length ≤ c ∧ Cp w w' a ts.length c ts G ∧ Apt ts G ts.length

theorem tyAt_old (acc : List Ty) (t : Ty) (i : Nat) (h : i < acc.length) : tyAt (acc ++ [t]) i = tyAt acc i := by
  unfold tyAt; simp [List.getD, List.getElem?_append_left h]
theorem tyAt_new (acc : List Ty) (t : Ty) : tyAt (acc ++ [t]) acc.length = t := by
  unfold tyAt; simp [List.getD]
theorem rows_old (acc : List Ty) (t : Ty) (G H : Nat → Option Addr × Nat) : ∀ k, k ≤ acc.length → (∀ i, i < k → G i = H i) → rows (acc ++ [t]) H k = rows acc G k
  | 0, _, _ => rfl
  | k + 1, h, hg => by rw [rows, rows, rows_old acc t G H k (by omega) (fun i hi => hg i (by omega)), tyAt_old acc t k (by omega), hg k (by omega)]
theorem rows_more (acc : List Ty) (t : Ty) (G : Nat → Option Addr × Nat) (g : Option Addr × Nat) (k : Nat) (h : acc.length = k) : rows acc G k ++ tyRow t g = rows (acc ++ [t]) (fun i => if i = k then g else G i) (k + 1) := by
  subst h
  rw [rows, tyAt_new, rows_old acc t G _ acc.length (Nat.le_refl _) (fun i hi => by simp [Nat.ne_of_lt hi])]
  simp

theorem restP_no {L : List Int} {k : Int} {r : Nat} {t : Ty} {a : Nat} (h : has k (3 - r) = false) : restP L k (r + 1) t a = restP L k r t a := by rw [restP, h]; simp
theorem restP_bad {L : List Int} {k : Int} {r : Nat} {t : Ty} {a : Nat} (h : has k (3 - r) = true) (hn : rdN L a = none) : restP L k (r + 1) t a = .bad a := by
  rw [restP, h]; simp only [if_true]; unfold rdNum; rw [hn]
theorem restP_num {L : List Int} {k : Int} {r : Nat} {t : Ty} {a : Nat} {v : Int} {b : Nat} (h : has k (3 - r) = true) (h0 : r ≠ 0) (hn : rdN L a = some (v, b)) : restP L k (r + 1) t a = restP L k r (setP t (3 - r) v) b := by
  rw [restP, h]; simp only [if_true]; unfold rdNum; rw [hn]; simp only; rw [if_neg h0]
/-- A type, by what its fields are. -/
def thenFields (L : List Int) (k : Int) (t : Ty) : Rd (List Int) → Rd Ty
  | .bad x => .bad x
  | .good f d => restP L k 0 { t with fields := f } d
theorem restP_fld {L : List Int} {k : Int} {t : Ty} {a : Nat} {v : Int} {b : Nat} (h : has k 3 = true) (hn : rdN L a = some (v, b)) : restP L k 1 t a = thenFields L k t (rdFields L v.toNat b []) := by
  rw [restP, h]; simp only [if_true]; unfold rdNum; rw [hn]; simp only
  cases rdFields L v.toNat b [] <;> rfl

theorem rdKind_in {L : List Int} {a : Nat} {kd : Int} {b : Nat} (h : rdKind L a = .good kd b) : 1 ≤ kd ∧ kd ≤ 10 ∧ rdN L a = some (kd, b) := by
  unfold rdKind at h
  cases e : rdN L a with
  | none => rw [e] at h; cases h
  | some p =>
    obtain ⟨v', b'⟩ := p
    rw [e] at h
    simp only at h
    by_cases hk : 1 ≤ v' ∧ v' ≤ 10
    · rw [if_pos hk] at h
      simp only [Rd.good.injEq] at h
      obtain ⟨rfl, rfl⟩ := h
      exact ⟨hk.1, hk.2, rfl⟩
    · rw [if_neg hk] at h; cases h

/-- What a table is, by what its next type is. -/
def thenMany (L : List Int) (g : Nat) (acc : List Ty) : Rd Ty → Rd (List Ty)
  | .bad x => .bad x
  | .good t b => rdMany L g b (acc ++ [t])
theorem rdMany_then (L : List Int) (g a : Nat) (acc : List Ty) : rdMany L (g + 1) a acc = thenMany L g acc (rdOne L a) := by
  rw [rdMany]; cases rdOne L a <;> rfl

set_option maxRecDepth 100000 in
set_option maxHeartbeats 4000000 in
theorem readTable_any (a : Option Addr) (L : List Int) (n c : Nat) (w : World) (hB : Bs w a L) (hn : L.length = n) (hl : n ≤ 65536) (hb : ∀ x ∈ L, 0 ≤ x ∧ x < 256) (hc : n ≤ c) (hG : Gl w) :
    Calls Tryd.prog 39 #[.slice a n c] w (RtPost w L n) := by
  obtain ⟨hz92, _⟩ := zero_of_info zero92
  obtain ⟨hz48, _⟩ := zero_of_info zero48
  have hE0 := Ext.alloc [] w (.cells #[.slice a n c, .int .i64 ((0 : Nat) : Int), .bool false] 92)
  have HR0 : Hid (Rdr (w.alloc (.cells #[.slice a n c, .int .i64 ((0 : Nat) : Int), .bool false] 92)) w.heap.size a n c 0 false) := heap_alloc_new w _
  have HS0 : Hid (Src (w.alloc (.cells #[.slice a n c, .int .i64 ((0 : Nat) : Int), .bool false] 92)) w.heap.size a n c L) := ⟨hB.keep0 hE0, hn, hl, hb, hc, fun h0 ad h => by have := hB.lt h0 ad h; omega⟩
  have HG := hid hG
  have HE0 := hid hE0
  have HSw : Hid (Src w w.heap.size a n c L) := ⟨hB, hn, hl, hb, hc, fun h0 ad h => by have := hB.lt h0 ad h; omega⟩
  clear hB hb hG hE0 hn
  go_enter Tryd.func39, Tryd.ntmps39
  go_wp2_with fail
  go_step3
  go_wp2_with fail
  refine (number_any w.heap.size a L n c 0 false _ HR0.out HS0.out (Nat.zero_le _)).mono ?_
  rintro e w1 ⟨rfl, hR1, hE1⟩
  obtain ⟨p, hp⟩ : ∃ p, p = w.heap.size := ⟨_, rfl⟩
  rw [← hp] at hR1 hE1 HSw ⊢
  have HE1 := hid (HE0.out.on hE1 (by simp; omega))
  have HP : Hid (w.heap.size ≤ p) := by show _ ≤ _; omega
  have HNx : Hid (∀ x y v, rdN L x = some (v, y) → v ≤ 2147483647 ∧ 0 ≤ v ∧ y ≤ n) := fun x y v hx => by
    have h1 := rdN_bd hx
    have h2 := HSw.out.hn
    unfold lim at h1
    omega
  clear HR0 HS0 HE0 hE1 hp
  cases hr : rdN L 0 with
  | none =>
    have HN : Hid (numR L 0 false = (0, 0, true)) := by show _ = _; unfold numR; simp [hr]
    have HT : Hid (rdTab L = .bad 0) := by show _ = _; unfold rdTab rdNum; rw [hr]
    rw [HN.out] at hR1 ⊢
    obtain ⟨d0, d1, d2, df⟩ := hR1.cells
    simp only at d1 d2
    clear hR1 hr HN HNx
    go_wp2_with fail
    go_step3
    go_wp2_with fail
    go_loopg [15] 0 (fun g u wr => u = .int .i64 0 ∧ wr = w1)
    case atStart => exact ⟨rfl, rfl⟩
    case round =>
      obtain ⟨rfl, rfl⟩ := hrel
      go_wp2_with fail
      go_quiet (fail)
      go_wp2_with fail
      try rw [Exit.noGoto_ret]
      go_ret3
      refine ⟨HE1.out.trans (Ext.drewN [] _ _), ?_⟩
      rw [HT.out]
      exact ⟨_, rfl⟩
  | some r =>
    obtain ⟨cnt, at0⟩ := r
    obtain ⟨hcn1, hcn0, hat0⟩ := HNx.out _ _ _ hr
    obtain ⟨m, rfl⟩ : ∃ m : Nat, cnt = m := ⟨cnt.toNat, by omega⟩
    have HN : Hid (numR L 0 false = ((m : Int), at0, false)) := by show _ = _; unfold numR; simp [hr]
    obtain ⟨T, hT⟩ : ∃ T, T = rdMany L m at0 [] := ⟨_, rfl⟩
    have HT : Hid (rdTab L = T) := by show _ = _; unfold rdTab rdNum; rw [hr, hT]; rfl
    have HO : Hid (OutS w p a n c L T m 0 (.slice none 0 0) w1 at0 false []) := by
      refine ⟨own_nil _ _ _ _, fun _ => ⟨[], fun _ => (none, 0), rfl, rfl, fun i hi => by omega, fun i j hi => by omega, hT.symm⟩, by simp, HE1.out, ?_, hat0⟩
      have := hR1
      rw [HN.out] at this
      exact this
    rw [HN.out]
    clear hR1 hr HN hT HE1 hcn0
    go_wp2_with fail
    go_step3
    go_wp2_with fail
    go_loopg [2, 15] m (fun g lv u wr => ∃ k at_ f xs, k + g = m ∧ u = .int .i64 (k : Nat) ∧ OutS w p a n c L T g k lv wr at_ f xs)
    case atStart => exact ⟨0, at0, false, [], by omega, rfl, HO.out⟩
    case round =>
      clear HO
      obtain ⟨k, at_, f, xs, hkg, rfl, hO⟩ := hrel
      have HO := hid hO
      obtain ⟨d0, d1, d2, df⟩ := hO.rdr.cells
      obtain ⟨wk, hwk⟩ : ∃ x, x = wr := ⟨_, rfl⟩
      subst hwk
      cases gk with
      | zero =>
        obtain rfl : k = m := by omega
        clear hO
        cases f
        · obtain ⟨acc, G, hal, hxs, hFs, hApt, hgood⟩ := HO.out.good rfl
          have HApt := hid hApt
          have HTg : Hid (rdTab L = .good acc at_) := by show _ = _; rw [HT.out, ← hgood]; rfl
          have HX := hid hxs
          have HAL := hid hal
          have HFs := hid hFs
          obtain ⟨la, lc, rfl, hlc⟩ := own_slice HO.out.row
          clear hgood hxs hal hFs hApt
          by_cases hat : at_ = n
          · have HAt := hid hat
            have hae : ((at_ : Int) == (n : Int)) = true := by rw [hat]; simp
            clear hat
            go_wp2_with fail
            go_quiet (fail)
            go_wp2_with fail
            try rw [Exit.noGoto_ret]
            go_ret3
            refine ⟨HO.out.ext.trans (Ext.drewN [] _ _), ?_⟩
            rw [HTg.out]
            refine ⟨la, lc, G, ?_, by rw [HAL.out]; exact hlc, ?_, by rw [HAL.out]; exact HApt.out⟩
            · rw [HAL.out, HAt.out]; simp
            · rw [HAL.out]
              have hrow := HO.out.row
              rw [HX.out] at hrow
              exact Cp.keep0 ⟨hrow, HFs.out⟩ (Ext.drewN [] _ _)
          · have HAt := hid hat
            have hae : ((at_ : Int) == (n : Int)) = false := beq_false_of_ne (by omega)
            clear hat
            go_wp2_with fail
            go_quiet (fail)
            go_wp2_with fail
            try rw [Exit.noGoto_ret]
            go_ret3
            refine ⟨HO.out.ext.trans (Ext.drewN [] _ _), ?_⟩
            rw [HTg.out]
            refine ⟨la, lc, G, ?_, by rw [HAL.out]; exact hlc, ?_, by rw [HAL.out]; exact HApt.out⟩
            · rw [HAL.out, beq_false_of_ne HAt.out]; rfl
            · rw [HAL.out]
              have hrow := HO.out.row
              rw [HX.out] at hrow
              exact Cp.keep0 ⟨hrow, HFs.out⟩ (Ext.drewN [] _ _)
        · have HTb : Hid (rdTab L = .bad at_) := by show _ = _; rw [HT.out]; exact HO.out.bad rfl
          go_wp2_with fail
          go_quiet (fail)
          go_wp2_with fail
          try rw [Exit.noGoto_ret]
          go_ret3
          refine ⟨HO.out.ext.trans (Ext.drewN [] _ _), ?_⟩
          rw [HTb.out]
          exact ⟨_, rfl⟩
      | succ g =>
        have hS : Src wk p a n c L := HSw.out.keep HO.out.ext (by simp)
        have K := kind_any p a L n c at_ f wk hO.rdr hS hO.le
        have HKc : Hid ((kindR L at_ f = (0, at_, true) ∧ T = .bad at_) ∨ ∃ kd b, f = false ∧ rdKind L at_ = .good kd b) := by
          cases f
          · cases hkk : rdKind L at_ with
            | good kd b => exact .inr ⟨kd, b, rfl, rfl⟩
            | bad x =>
              left
              obtain ⟨acc, G, _, _, _, _, hgood⟩ := HO.out.good rfl
              refine ⟨by unfold kindR; simp [hkk], ?_⟩
              rw [← hgood, rdMany, rdOne_rest, hkk]
              unfold rdKind at hkk
              cases hr : rdN L at_ with
              | none => rw [hr] at hkk; simp only [Rd.bad.injEq] at hkk; rw [hkk]
              | some r =>
                rw [hr] at hkk
                simp only at hkk
                split at hkk
                · cases hkk
                · simp only [Rd.bad.injEq] at hkk; rw [hkk]
          · left
            exact ⟨by unfold kindR; simp, HO.out.bad rfl⟩
        clear hO d0 d1 d2 df hS
        go_wp2_with fail
        refine K.mono ?_
        clear K
        rintro e w1 ⟨rfl, hR1, hE1⟩
        have HE1 := hid hE1
        rcases HKc.out with ⟨hk1, hk2⟩ | ⟨kd, b, rfl, hkk⟩
        · rw [hk1] at hR1 ⊢
          have HTb : Hid (rdTab L = .bad at_) := by show _ = _; rw [HT.out]; exact hk2
          have HEe := hid (HO.out.ext.on hE1 (by simp; exact HP.out))
          obtain ⟨d0, d1, d2, df⟩ := hR1.cells
          simp only at d1 d2
          have hpl : p < w1.heap.size := lt_of_heap hR1
          clear hk1 hk2 hR1 hE1 HKc HE1
          go_wp2_with fail
          go_loopg [19] 0 (fun g u wx => u = .int .i64 0 ∧ wx = w1.alloc (.cells #[.int .i64 0, .int .i64 0, .int .i64 0, .int .i64 0, .slice none 0 0] 48))
          case atStart => exact ⟨rfl, rfl⟩
          case round =>
            obtain ⟨rfl, rfl⟩ := hrel
            go_wp2_with fail
            go_quiet (fail)
            go_wp2_with fail
            try rw [Exit.noGoto_ret]
            go_ret3
            refine ⟨(HEe.out.trans (Ext.alloc _ _ _)).trans (Ext.drewN [] _ _), ?_⟩
            rw [HTb.out]
            exact ⟨_, rfl⟩
        · obtain ⟨hk1, hk2, hkn⟩ := rdKind_in hkk
          have hb := (HNx.out _ _ _ hkn).2.2
          have HK : Hid (kindR L at_ false = (kd, b, false)) := by show _ = _; unfold kindR; simp [hkk]
          rw [HK.out] at hR1 ⊢
          simp only at hR1
          obtain ⟨acc, G, hal, hxs, hFs, hApt, hgood⟩ := HO.out.good rfl
          have HApt := hid hApt
          obtain ⟨Q, hQ⟩ : ∃ Q, Q = restP L kd 4 ⟨kd, 0, 0, 0, []⟩ b := ⟨_, rfl⟩
          have HTQ : Hid (T = thenMany L g acc Q) := by
            show _ = _
            rw [← hgood, rdMany_then, rdOne_rest, hkk, hQ]
          have HX := hid hxs
          have HAL := hid hal
          have HFs := hid hFs
          have hpl : p < w1.heap.size := lt_of_heap hR1
          have HEe := hid (HO.out.ext.on hE1 (by simp; exact HP.out))
          have HPS : Hid (PartS w1 p w1.heap.size a n c L kd Q 4 (w1.alloc (.cells #[.int .i64 kd, .int .i64 0, .int .i64 0, .int .i64 0, .slice none 0 0] 48)) b false ⟨kd, 0, 0, 0, []⟩ none 0) :=
            ⟨Ext.alloc _ _ _, Rdr.keep hR1 (Ext.alloc [] _ _) (by simp), hb, heap_alloc_new w1 _, rfl, own_nil _ _ _ _, fun _ => hQ.symm, by simp, fun _ => rfl⟩
          clear hkk hkn hb HK hR1 hgood hQ hal hxs hFs HKc hE1 hApt
          go_wp2_with fail
          go_loopg [19] 4 (fun r u wx => ∃ j b f t fa fc, j + r = 4 ∧ u = .int .i64 (j : Nat) ∧ PartS w1 p w1.heap.size a n c L kd Q r wx b f t fa fc)
          case atStart => exact ⟨0, b, false, _, none, 0, rfl, rfl, HPS.out⟩
          case round =>
            clear HPS
            obtain ⟨j, b, f, t, fa, fc, hjr, rfl, hPS⟩ := hrel
            obtain ⟨wx, hwx⟩ : ∃ x, x = wr := ⟨_, rfl⟩
            subst hwx
            have HPS := hid hPS
            obtain ⟨d0, d1, d2, df⟩ := hPS.rdr.cells
            obtain ⟨c0, c1, c2, c3, c4, cf⟩ := hPS.one.cells
            rw [hPS.hk] at c0
            have HEx := hid (HEe.out.on hPS.ext (by simp; exact HP.out))
            clear hPS
            cases gk with
            | zero =>
              obtain rfl : j = 4 := by omega
              have hrk := HO.out.row
              have hr1 := own_keep hrk HE1.out (by simpa using own_ne hrk HO.out.rdr (by decide))
              have hr2 := own_keep hr1 HPS.out.ext (by simpa using own_ne hrk HO.out.rdr (by decide))
              have hE3 := Ext.alloc [] wx (.cells #[.int .i64 kd, .int .i64 t.elem, .int .i64 t.key, .int .i64 t.len, .slice fa t.fields.length fc] 48)
              have hr3 := own_keep0 hr2 hE3
              obtain ⟨v2, w4, hap, hO4, hX4⟩ := app5 _ w.heap.size (HEx.out.trans hE3).size u2 k xs hr3 wx.heap.size t (fa, fc) (by rw [HPS.out.hk]; exact heap_alloc_new wx _) (by omega)
              have HO4 := hid hO4
              have HE4 := hid ((HEx.out.trans hE3).on hX4 (fun x hx => (own_lt hr3 x (by simpa using hx)).1))
              have HR4 : Hid (Rdr w4 p a n c b f) := by
                have h3 := HPS.out.rdr.keep hE3 (by simp)
                exact h3.keep hX4 (by simpa using own_ne hr3 h3 (by decide))
              have HF4 : Hid (Fs w w4 (acc ++ [t]) (fun i => if i = k then (fa, fc) else G i) (k + 1)) := by
                intro i hi
                have hal := HAL.out
                by_cases e : i = k
                · subst e
                  simp only [if_true]
                  rw [← hal, tyAt_new]
                  have h3 := own_keep0 (own_base HPS.out.row (base' := w.heap.size) (by have := HEe.out.size; omega)) hE3
                  exact own_keep h3 hX4 (own_apart h3 hr3 (by decide))
                · simp only [e, if_false]
                  rw [tyAt_old acc t i (by omega)]
                  have h0 := HFs.out i (by omega)
                  have hnp := own_ne h0 HO.out.rdr (by decide)
                  have h1 := own_keep h0 HE1.out (by simpa using hnp)
                  have h2 := own_keep h1 HPS.out.ext (by simpa using hnp)
                  have h3 := own_keep0 h2 hE3
                  exact own_keep h3 hX4 (own_apart h3 hr3 (by decide))
              have HA4 : Hid (Apt (acc ++ [t]) (fun i => if i = k then (fa, fc) else G i) (k + 1)) := by
                have hal := HAL.out
                have hnew := own_lt HPS.out.row
                have hwk := HE1.out.size
                have hold : ∀ i, i < k → ∀ g, Value.ownBlock (.slice (G i).1 (tyAt acc i).fields.length (G i).2) = some g → g < wk.heap.size := fun i hi g hg => (own_lt (HFs.out i hi) g hg).2
                intro i j hi hj hij g hg
                by_cases ei : i = k
                · subst ei
                  have ej : j ≠ i := Ne.symm hij
                  simp only [if_true, ej, if_false] at hg ⊢
                  rw [tyAt_old acc t j (by omega)]
                  have e1 : tyAt (acc ++ [t]) i = t := by rw [← hal, tyAt_new]
                  rw [e1] at hg
                  intro h2
                  have := hold j (by omega) g h2
                  have := (hnew g hg).1
                  omega
                · by_cases ej : j = k
                  · subst ej
                    simp only [if_true, ei, if_false] at hg ⊢
                    rw [tyAt_old acc t i (by omega)] at hg
                    have e1 : tyAt (acc ++ [t]) j = t := by rw [← hal, tyAt_new]
                    rw [e1]
                    intro h2
                    have := hold i (by omega) g hg
                    have := (hnew g h2).1
                    omega
                  · simp only [ei, ej, if_false] at hg ⊢
                    rw [tyAt_old acc t i (by omega)] at hg
                    rw [tyAt_old acc t j (by omega)]
                    exact HApt.out i j (by omega) (by omega) hij g hg
              clear hrk hr1 hr2 hE3 hr3 hO4 hX4
              go_wp2_with (at_builtin; refine wpList_append_run rfl _ _ 22 rfl _ _ _ rfl rfl hap ?_)
              go_roundg g
              case measure => omega
              case rel =>
                refine ⟨k + 1, b, f, _, by omega, by go_num, HO4.out, fun hf => ?_, fun hf => ?_, HE4.out, HR4.out, HPS.out.le⟩
                · refine ⟨acc ++ [t], _, by simp [HAL.out], ?_, HF4.out, HA4.out, ?_⟩
                  · rw [HX.out]; exact rows_more acc t G (fa, fc) k HAL.out
                  · rw [HTQ.out, ← HPS.out.good hf]; rfl
                · rw [HTQ.out, HPS.out.bad hf]; rfl
            | succ r =>
              cases f
              · have K59 := hasPart_any kd j wx ⟨hk1, hk2⟩ (by omega) (HG.out.keep0 HEx.out)
                obtain rfl : r = 3 - j := by omega
                have hj3 : 3 - (3 - j) = j := by omega
                cases hh : has kd j
                · have HH : Hid (restP L kd (3 - j) t b = Q) := by
                    show _ = _
                    rw [← HPS.out.good rfl]
                    exact (restP_no (by rw [hj3]; exact hh)).symm
                  rw [hh] at K59
                  clear hh hj3
                  go_wp2_with (go_at_call 59; refine met K59 ?_)
                  go_roundg (3 - j)
                  case measure => omega
                  case rel => exact ⟨j + 1, b, false, t, fa, fc, by omega, by go_num, HPS.out.ext, HPS.out.rdr, HPS.out.le, HPS.out.one, HPS.out.hk, HPS.out.row, fun _ => HH.out, by simp, fun _ => HPS.out.nof (by omega)⟩
                · rw [hh] at K59
                  have HH : Hid (has kd (3 - (3 - j)) = true) := by show _ = _; rw [hj3]; exact hh
                  have K57 := number_any p a L n c b false wx HPS.out.rdr (HSw.out.keep HEx.out (by simp)) HPS.out.le
                  clear hh hj3
                  go_wp2_with (go_at_call 59; refine met K59 ?_)
                  refine K57.mono ?_
                  clear K57 K59
                  rintro e w5 ⟨rfl, hR5, hE5⟩
                  have hone5 := HPS.out.one.keep hE5 (by simp; omega)
                  have HE5 := hid (HPS.out.ext.trans hE5)
                  have HRow5 : Hid (w5.ownsRow (w1.heap.size + 1) 3 1 (.slice fa t.fields.length fc) t.fields.length (t.fields.map (.int .i64))) := own_keep HPS.out.row hE5 (by simpa using own_ne HPS.out.row HPS.out.rdr (by decide))
                  obtain ⟨c0, c1, c2, c3, c4, cf⟩ := hone5.cells
                  have HOne5 := hid hone5
                  clear hone5 hE5
                  cases hr : rdN L b with
                  | none =>
                    have HQ : Hid (Q = .bad b) := by show _ = _; rw [← HPS.out.good rfl, restP_bad HH.out hr]
                    have HN : Hid (numR L b false = (0, b, true)) := by show _ = _; unfold numR; simp [hr]
                    rw [HN.out] at hR5 ⊢
                    simp only at hR5
                    have HR5 := hid hR5
                    clear hr HN hR5
                    rcases (by omega : j ≤ 2 ∨ j = 3) with hj | rfl
                    · have K60 := numberOf_any w1.heap.size j w5 hj
                      have hjn : ((j : Int) != 3) = true := by
                        have : (j : Int) ≠ 3 := by omega
                        simpa using this
                      obtain ⟨hp1, u, hp2⟩ := HOne5.out.put j hj 0
                      have HP1 := hid hp1
                      have hfz := cf (slot j)
                      have HPn := hid (own_ne HRow5.out HOne5.out (by decide))
                      have HPr : Hid (p ≠ w1.heap.size) := by show _ ≠ _; omega
                      have HSP : Hid ((setP t j 0).fields = t.fields ∧ (setP t j 0).kind = t.kind) := by
                        show _ ∧ _
                        unfold setP; split
                        · exact ⟨rfl, rfl⟩
                        · split <;> exact ⟨rfl, rfl⟩
                      clear hp1
                      go_wp2_with (go_at_call 60; refine met K60 ?_)
                      go_roundg (3 - j)
                      case measure => omega
                      case rel =>
                        have hE6 := Ext.setCell [w1.heap.size] w5 ⟨w1.heap.size, slot j, none⟩ (.int .i64 0) (by simp)
                        refine ⟨j + 1, b, true, setP t j 0, fa, fc, by omega, by go_num, ?_, HR5.out.keep hE6 (by simpa using HPr.out), HPS.out.le, HP1.out, HSP.out.2.trans HPS.out.hk, ?_, by simp, fun _ => HQ.out, fun _ => HSP.out.1.trans (HPS.out.nof (by omega))⟩
                        · exact ((HE5.out.mono (T := [p, w1.heap.size]) (by simp)).trans (hE6.mono (by simp))).drop (by simp)
                        · rw [HSP.out.1]
                          exact own_keep HRow5.out hE6 (by simpa using HPn.out)
                    · go_wp2_with fail
                      go_loopg [37] 0 (fun g u wy => u = .int .i64 0 ∧ wy = w5)
                      case atStart => exact ⟨rfl, rfl⟩
                      case round =>
                        obtain ⟨rfl, rfl⟩ := hrel
                        go_wp2_with fail
                        go_roundg 0
                        case measure => omega
                        case rel => exact ⟨4, b, true, t, fa, fc, by omega, by go_num, HE5.out, HR5.out, HPS.out.le, HOne5.out, HPS.out.hk, HRow5.out, by simp, fun _ => HQ.out, fun h => by omega⟩
                  | some rv =>
                    obtain ⟨v, b5⟩ := rv
                    obtain ⟨hv1, hv0, hb5⟩ := HNx.out _ _ _ hr
                    have HN : Hid (numR L b false = (v, b5, false)) := by show _ = _; unfold numR; simp [hr]
                    rw [HN.out] at hR5 ⊢
                    simp only at hR5
                    have HR5 := hid hR5
                    rcases (by omega : j ≤ 2 ∨ j = 3) with hj | rfl
                    · have HQ : Hid (restP L kd (3 - j) (setP t j v) b5 = Q) := by
                        show _ = _
                        rw [← HPS.out.good rfl, restP_num HH.out (by omega) hr, show 3 - (3 - j) = j by omega]
                      clear hr HN hR5
                      have K60 := numberOf_any w1.heap.size j w5 hj
                      have hjn : ((j : Int) != 3) = true := by
                        have : (j : Int) ≠ 3 := by omega
                        simpa using this
                      obtain ⟨hp1, u, hp2⟩ := HOne5.out.put j hj v
                      have HP1 := hid hp1
                      have hfz := cf (slot j)
                      have HPn := hid (own_ne HRow5.out HOne5.out (by decide))
                      have HPr : Hid (p ≠ w1.heap.size) := by show _ ≠ _; omega
                      have HSP : Hid ((setP t j v).fields = t.fields ∧ (setP t j v).kind = t.kind) := by
                        show _ ∧ _
                        unfold setP; split
                        · exact ⟨rfl, rfl⟩
                        · split <;> exact ⟨rfl, rfl⟩
                      clear hp1
                      go_wp2_with (go_at_call 60; refine met K60 ?_)
                      go_roundg (3 - j)
                      case measure => omega
                      case rel =>
                        have hE6 := Ext.setCell [w1.heap.size] w5 ⟨w1.heap.size, slot j, none⟩ (.int .i64 v) (by simp)
                        refine ⟨j + 1, b5, false, setP t j v, fa, fc, by omega, by go_num, ?_, HR5.out.keep hE6 (by simpa using HPr.out), hb5, HP1.out, HSP.out.2.trans HPS.out.hk, ?_, fun _ => HQ.out, by simp, fun _ => HSP.out.1.trans (HPS.out.nof (by omega))⟩
                        · exact ((HE5.out.mono (T := [p, w1.heap.size]) (by simp)).trans (hE6.mono (by simp))).drop (by simp)
                        · rw [HSP.out.1]
                          exact own_keep HRow5.out hE6 (by simpa using HPn.out)
                    · obtain ⟨mm, rfl⟩ : ∃ mm : Nat, v = mm := ⟨v.toNat, by omega⟩
                      obtain ⟨F, hF⟩ : ∃ F, F = rdFields L mm b5 [] := ⟨_, rfl⟩
                      have HQ : Hid (Q = thenFields L kd t F) := by
                        show _ = _
                        rw [← HPS.out.good rfl, hF]
                        exact restP_fld HH.out hr
                      have hnf := HPS.out.nof (by omega)
                      have HFl : Hid (FldS w1 p w1.heap.size a n c L t F mm 0 w5 b5 [] fa fc) := by
                        have h1 := HOne5.out
                        have h2 := HRow5.out
                        rw [hnf] at h2
                        refine ⟨HE5.out, HR5.out, hb5, rfl, ?_, h2, hF.symm⟩
                        have e : ({ t with fields := [] } : Ty) = t := by rw [← hnf]
                        rw [e]; exact h1
                      clear hr HN hR5 hF hnf
                      go_wp2_with fail
                      go_loopg [37] mm (fun g u wy => ∃ i b fs fa fc, i + g = mm ∧ u = .int .i64 (i : Nat) ∧ FldS w1 p w1.heap.size a n c L t F g i wy b fs fa fc)
                      case atStart => exact ⟨0, b5, [], fa, fc, by omega, rfl, HFl.out⟩
                      case round =>
                        clear HFl
                        obtain ⟨i, b6, fs, fa6, fc6, hig, rfl, hFl⟩ := hrel
                        obtain ⟨wy, hwy⟩ : ∃ x, x = wr := ⟨_, rfl⟩
                        subst hwy
                        have HFl := hid hFl
                        have HEy := hid (HEe.out.on hFl.ext (by simp; exact HP.out))
                        obtain ⟨d0, d1, d2, df⟩ := hFl.rdr.cells
                        clear hFl
                        cases gk with
                        | zero =>
                          go_wp2_with fail
                          go_roundg 0
                          case measure => omega
                          case rel =>
                            have hlen := HFl.out.len
                            refine ⟨4, b6, false, { t with fields := fs }, fa6, fc6, by omega, by go_num, HFl.out.ext, HFl.out.rdr, HFl.out.le, HFl.out.one, HPS.out.hk, ?_, fun _ => ?_, by simp, fun h => by omega⟩
                            · have := HFl.out.row
                              rw [← hlen] at this
                              exact this
                            · rw [HQ.out, ← HFl.out.good]; rfl
                        | succ g6 =>
                          have K7 := number_any p a L n c b6 false wy HFl.out.rdr (HSw.out.keep HEy.out (by simp)) HFl.out.le
                          go_wp2_with fail
                          refine K7.mono ?_
                          clear K7
                          rintro e w7 ⟨rfl, hR7, hE7⟩
                          have HE7 := hid (HFl.out.ext.trans hE7)
                          have hone7 := HFl.out.one.keep hE7 (by simp; omega)
                          have hrow7 := own_keep HFl.out.row hE7 (by simpa using own_ne HFl.out.row HFl.out.rdr (by decide))
                          cases hr : rdN L b6 with
                          | none =>
                            have HTb : Hid (rdTab L = .bad b6) := by
                              show _ = _
                              have e1 : F = .bad b6 := by rw [← HFl.out.good, rdFields, hr]
                              rw [HT.out, HTQ.out, HQ.out, e1]; rfl
                            have HN : Hid (numR L b6 false = (0, b6, true)) := by show _ = _; unfold numR; simp [hr]
                            rw [HN.out] at hR7 ⊢
                            simp only at hR7
                            obtain ⟨d0, d1, d2, df⟩ := hR7.cells
                            have HEz := hid (HEe.out.on HE7.out (by simp; exact HP.out))
                            clear hr HN hR7 hE7 hone7 hrow7
                            go_wp2_with fail
                            go_quiet (fail)
                            go_wp2_with fail
                            try rw [Exit.noGoto_ret]
                            go_ret3
                            refine ⟨HEz.out.trans (Ext.drewN [] _ _), ?_⟩
                            rw [HTb.out]
                            exact ⟨_, rfl⟩
                          | some rv =>
                            obtain ⟨v7, b7⟩ := rv
                            obtain ⟨hv1, hv0, hb7⟩ := HNx.out _ _ _ hr
                            have HN : Hid (numR L b6 false = (v7, b7, false)) := by show _ = _; unfold numR; simp [hr]
                            rw [HN.out] at hR7 ⊢
                            simp only at hR7
                            have HG7 : Hid (rdFields L g6 b7 (fs ++ [v7]) = F) := by show _ = _; rw [← HFl.out.good, rdFields, hr]
                            have hlen := HFl.out.len
                            have HLen := hid hlen
                            have hpl7 : w1.heap.size < w7.heap.size := lt_of_heap hone7
                            obtain ⟨d0, d1, d2, df⟩ := hR7.cells
                            have hE8 := Ext.alloc [] w7 (.cells #[.int .i64 v7] 3)
                            obtain ⟨v8, w8, hap, hO8, hX8⟩ := app1 (w7.alloc (.cells #[.int .i64 v7] 3)) (w1.heap.size + 1) (by have := hE8.size; omega) fa6 i fc6 _ (own_keep0 hrow7 hE8) w7.heap.size v7 (by rw [cell_of_row _ _ _ _ _ _ (heap_alloc_new w7 _)]; rfl) (by omega)
                            obtain ⟨a8, c8, rfl, _⟩ := own_slice hO8
                            have hone8 := (hone7.keep hE8 (by simp)).keep hX8 (by simpa using own_ne (own_keep0 hrow7 hE8) (hone7.keep hE8 (by simp)) (by decide))
                            have hR8 := (hR7.keep hE8 (by simp)).keep hX8 (by simpa using own_ne (own_keep0 hrow7 hE8) (hR7.keep hE8 (by simp)) (by decide))
                            have hXlt := own_lt (own_keep0 hrow7 hE8)
                            have HE8 : Hid (Ext [p] w1 w8) := by
                              refine (((HE7.out.trans (hE8.mono (by simp))).mono (T := p :: (Value.ownBlock (.slice fa6 i fc6)).toList) (by simp)).trans (hX8.mono (fun x hx => List.mem_cons_of_mem _ hx))).drop ?_
                              intro x hx
                              rcases List.mem_cons.1 hx with h | h
                              · left; simp [h]
                              · right; have := (hXlt x (by simpa using h)).1; omega
                            obtain ⟨e0, e1, e2, e3, e4, ef⟩ := hone8.cells
                            obtain ⟨g0, g1, g2, g3, g4, gf⟩ := hone7.cells
                            have g4' : w7.cell? ⟨w1.heap.size, 4, none⟩ = some (.slice fa6 i fc6) := by rw [g4, ← hlen]
                            have HO9 : Hid (OneAt (w8.setCell ⟨w1.heap.size, 4, none⟩ (.slice a8 (i + 1) c8)) w1.heap.size { t with fields := fs ++ [v7] } a8 c8) := hone8.putF (fs ++ [v7]) (i + 1) (by simp [hlen])
                            have hE9 := Ext.setCell [w1.heap.size] w8 ⟨w1.heap.size, 4, none⟩ (.slice a8 (i + 1) c8) (by simp)
                            have HR9 := hid (hR8.keep hE9 (by simp; omega))
                            have HRow9 := hid (own_keep hO8 hE9 (by simpa using own_ne hO8 hone8 (by decide)))
                            have HE9 : Hid (Ext [p] w1 (w8.setCell ⟨w1.heap.size, 4, none⟩ (.slice a8 (i + 1) c8))) := ((HE8.out.mono (T := [p, w1.heap.size]) (by simp)).trans (hE9.mono (by simp))).drop (by simp)
                            clear hr HN hR7 hE7 hone7 hrow7 hE8 hO8 hX8 hone8 hR8 hXlt hE9 hlen g4 HE8
                            go_wp2_with (at_builtin; refine wpList_append_run rfl _ _ 45 rfl _ _ _ rfl rfl hap ?_)
                            go_roundg g6
                            case measure => omega
                            case rel =>
                              refine ⟨i + 1, b7, fs ++ [v7], a8, c8, by omega, by go_num, HE9.out, HR9.out, hb7, by simp [HLen.out], HO9.out, ?_, HG7.out⟩
                              have := HRow9.out
                              simpa using this
              · have HTb : Hid (rdTab L = .bad b) := by show _ = _; rw [HT.out, HTQ.out, HPS.out.bad rfl]; rfl
                go_wp2_with fail
                go_quiet (fail)
                go_wp2_with fail
                try rw [Exit.noGoto_ret]
                go_ret3
                refine ⟨HEx.out.trans (Ext.drewN [] _ _), ?_⟩
                rw [HTb.out]
                exact ⟨_, rfl⟩

end Go.Proofs.YtfjbhpjgidgjaaaDoor
