/-
  Which words of a type are pointers, as the program finds them; no statement is proved here.
-/
import Derived.Test.YtfjbhpjgidgjaaaDoorCheck
import Derived.Test.YtfjbhpjgidgjaaaDoorOwn
namespace Go.Proofs.YtfjbhpjgidgjaaaDoor
open Go.RowKit

/-- The bools xs in a slice of the call's own since w0. -/
def BOwn (w0 w : World) (v : Value) (xs : List Bool) : Prop := w.ownsRow w0.heap.size 4 1 v xs.length (xs.map Value.bool)

/-- Whatever is no row of bools is as it was. -/
def Fr (w w' : World) : Prop := ∀ (k : Nat) (cs : Array Value) (T : TypeId) (fz : Nat × Nat), T ≠ 4 → w.heap[k]? = some (Obj.cells cs T fz) → w'.heap[k]? = some (Obj.cells cs T fz)
theorem Fr.trans {a b c : World} (h : Fr a b) (k : Fr b c) : Fr a c := fun i cs T fz hT hc => k i cs T fz hT (h i cs T fz hT hc)
theorem Fr.of {w w' : World} (h : Ext [] w w') : Fr w w' := fun k cs T fz _ hc => h.keep hc (by simp)
theorem Fr.own {w0 w w' : World} {v : Value} {n : Nat} {xs : List Value} (h : w.ownsRow w0.heap.size 4 1 v n xs) (e : Ext v.ownBlock.toList w w') : Fr w w' := fun k cs T fz hT hc => by
  refine e.keep hc fun hk => ?_
  rcases h.2 with ⟨rfl, _⟩ | ⟨g, cap, cur, rfl, _, h2, _⟩
  · simp [Value.ownBlock] at hk
  · simp [Value.ownBlock] at hk
    subst hk
    rw [h2] at hc
    simp only [Option.some.injEq, Obj.cells.injEq] at hc
    exact hT hc.2.1.symm

def BPost (w0 w : World) (xs : List Bool) (e : Ending) (w' : World) : Prop := ∃ v, e = .returned v ∧ BOwn w0 w' v xs ∧ Ext [] w0 w' ∧ Fr w w'

theorem app_bools (w0 w : World) (hE : Ext [] w0 w) (v : Value) (xs ys : List Bool) (hown : BOwn w0 w v xs) (hb : xs.length + ys.length ≤ 1000) (H L : Nat) (A : Array Value) (hH : w.heap.size = H) (hL : ys.length = L) (hA : (ys.map Value.bool).toArray = A) :
    ∃ v' w', (Builtin.append_ #[29, 29] 29 #[v, .slice (some ⟨H, 0, none⟩) L L]).run Tryd.prog (w.alloc (.cells A 4)) = .ok v' w' ∧ BOwn w0 w' v' (xs ++ ys) ∧ Ext [] w0 w' ∧ Fr w w' := by
  subst hH hL hA
  have hE2 := Ext.alloc [] w (.cells (ys.map Value.bool).toArray 4)
  obtain ⟨v', w', h1, h2, h3, h4⟩ := app_own w0 _ (hE.trans hE2) 29 29 4 _ 1 Tryd.underlying29 info4 rfl (by omega) v xs.length _ (own_keep0 hown hE2) (some ⟨w.heap.size, 0, none⟩) ys.length ys.length (ys.map Value.bool) (by simp) (vs_new w 4 _) (fun u hu => by obtain ⟨x, _, rfl⟩ := List.mem_map.1 hu; rfl) (by omega)
  refine ⟨v', w', h1, ?_, h3, (Fr.of hE2).trans (Fr.own (own_keep0 hown hE2) h4)⟩
  unfold BOwn
  rw [List.length_append, List.map_append]
  exact h2

theorem ptrs_take (E : List Me) (l : List Int) (k : Nat) (h : k < l.length) : (allPtrs E (l.take k)).length + (at' E (l.getD k 0)).ptrs.length ≤ (allPtrs E l).length := by
  have h1 := allPtrs_snoc E l k h
  have h2 : allPtrs E l = allPtrs E (l.take (k + 1)) ++ allPtrs E (l.drop (k + 1)) := by rw [← allPtrs_append, List.take_append_drop]
  rw [h2, h1]
  simp only [List.length_append]
  omega

theorem getD_rep (n k : Nat) (p : Int) (h : k < n) : (List.replicate n p).getD k 0 = p := by simp [List.getD, h]

set_option maxRecDepth 100000 in
set_option maxHeartbeats 2000000 in
theorem append_any (ts : List Ty) (a : Option Addr) (n c : Nat) (w0 : World) (hT0 : Tab w0 a ts) (hn0 : ts.length = n) (hS : AllOk ts) (hl0 : n ≤ 64) : ∀ (N i : Nat), i < N → i < n → ∀ (v : Value) (xs : List Bool) (w : World), BOwn w0 w v xs → Ext [] w0 w → xs.length + (M ts i).ptrs.length ≤ 1000 →
    Calls Tryd.prog 37 #[v, .slice a n c, .int .i64 i] w (BPost w0 w (xs ++ (M ts i).ptrs))
  | 0, _, h, _, _, _, _, _, _, _ => by omega
  | N + 1, i, hiN, hi, v, xs, w, hO, hE, hb => by
    have HIH := hid (append_any ts a n c w0 hT0 hn0 hS hl0 N)
    have HO := hid hO
    have HE := hid hE
    have HB := hid hb
    have hF := (hS i (by omega)).1
    have HM := hid (hF.eq (by omega))
    have HBW := hid hF.below
    have HLP := hid hF.length_parts
    have HFL := hid (hF.2.2.2.2.1)
    obtain ⟨b, o, rfl, hta⟩ := hT0.addr (by omega)
    obtain ⟨fa, fc, htt⟩ := hta i (by omega)
    have HFO := hid htt.f
    obtain ⟨c0, c1, c2, c3, c4, _⟩ := htt.keep0 hE
    clear hO hE hb hta hn0 hT0 htt hF hS
    generalize M ts i = m at *
    generalize tyAt ts i = t at *
    have hE1 := Ext.alloc [] w (.cells #[.int .i64 t.kind, .int .i64 t.elem, .int .i64 t.key, .int .i64 t.len, .slice fa t.fields.length fc] 48)
    have HE1 := hid (HE.out.trans hE1)
    have HO1 : Hid (BOwn w0 _ v xs) := own_keep0 HO.out hE1
    have HR1 := hid (Fr.of hE1)
    have HBX := hid (heap_alloc_new w (.cells #[.int .i64 t.kind, .int .i64 t.elem, .int .i64 t.key, .int .i64 t.len, .slice fa t.fields.length fc] 48))
    clear hE1
    by_cases h5 : t.kind = 5 ∨ t.kind = 6 ∨ t.kind = 10
    · have HP : Hid (m.ptrs = [true]) := by
        show _ = _
        rw [HM.out]; unfold meas
        rcases h5 with h | h | h <;> simp [h]
      obtain ⟨v', w', hr, hO', hE', hR'⟩ := app_bools w0 _ HE1.out v xs [true] HO1.out (by have := HB.out; rw [HP.out] at this; exact this) (w.heap.size + 1) 1 #[.bool true] (by simp) rfl rfl
      have HO' := hid hO'
      have HE' := hid hE'
      have HR' := hid (HR1.out.trans hR')
      clear hO' hE' hR'
      rcases h5 with h5 | h5 | h5
      all_goals
        rw [h5] at c0 hr
        clear h5
        go_enter Tryd.func37, Tryd.ntmps37
        go_wp2_with (at_builtin; refine wpList_append_run rfl _ _ 29 rfl _ _ _ rfl rfl hr ?_)
        go_ret
        exact ⟨v', rfl, by rw [HP.out]; exact HO'.out, HE'.out, by have := HR'.out; exact this⟩
    by_cases h4 : t.kind = 4
    · have HP : Hid (m.ptrs = [true, false]) := by
        show _ = _
        rw [HM.out]; unfold meas; simp [h4]
      obtain ⟨v', w', hr, hO', hE', hR'⟩ := app_bools w0 _ HE1.out v xs [true, false] HO1.out (by have := HB.out; rw [HP.out] at this; exact this) (w.heap.size + 1) 2 #[.bool true, .bool false] (by simp) rfl rfl
      have HO' := hid hO'
      have HE' := hid hE'
      have HR' := hid (HR1.out.trans hR')
      clear hO' hE' hR' h5
      rw [h4] at c0 hr
      clear h4
      go_enter Tryd.func37, Tryd.ntmps37
      go_wp2_with (at_builtin; refine wpList_append_run rfl _ _ 29 rfl _ _ _ rfl rfl hr ?_)
      go_ret
      exact ⟨v', rfl, by rw [HP.out]; exact HO'.out, HE'.out, by have := HR'.out; exact this⟩
    by_cases h7 : t.kind = 7
    · have HP : Hid (m.ptrs = [false, true]) := by
        show _ = _
        rw [HM.out]; unfold meas; simp [h7]
      obtain ⟨v', w', hr, hO', hE', hR'⟩ := app_bools w0 _ HE1.out v xs [false, true] HO1.out (by have := HB.out; rw [HP.out] at this; exact this) (w.heap.size + 1) 2 #[.bool false, .bool true] (by simp) rfl rfl
      have HO' := hid hO'
      have HE' := hid hE'
      have HR' := hid (HR1.out.trans hR')
      clear hO' hE' hR' h5 h4
      rw [h7] at c0 hr
      clear h7
      go_enter Tryd.func37, Tryd.ntmps37
      go_wp2_with (at_builtin; refine wpList_append_run rfl _ _ 29 rfl _ _ _ rfl rfl hr ?_)
      go_ret
      exact ⟨v', rfl, by rw [HP.out]; exact HO'.out, HE'.out, by have := HR'.out; exact this⟩
    by_cases h8 : t.kind = 8
    · have hpp : parts t = t.fields := by unfold parts; rw [if_pos h8]
      have HP : Hid (m.ptrs = allPtrs (ms ts) t.fields) := by
        show _ = _
        rw [HM.out]; unfold meas; simp [h8, hpp]
      have HBW8 := HBW.out
      have HLP8 := HLP.out
      rw [hpp] at HBW8 HLP8
      have HBW9 := hid HBW8
      rw [h8] at c0
      have hE1 := HE1.out
      have hO1 := HO1.out
      have hR1 := HR1.out
      rw [h8] at hE1 hO1 hR1
      have HE1 := hid hE1
      have HO1 := hid hO1
      have HR1 := hid hR1
      clear h5 h4 h7 h8 hpp HBW8 hE1 hO1 hR1 HBX
      go_enter Tryd.func37, Tryd.ntmps37
      go_wp2_with fail
      generalize w.alloc (.cells #[.int .i64 8, .int .i64 t.elem, .int .i64 t.key, .int .i64 t.len, .slice fa t.fields.length fc] 48) = w1 at *
      go_loopw [0, 38] (fun lv u wr => ∃ k : Nat, u = .int .i64 k ∧ k ≤ t.fields.length ∧ BOwn w0 wr lv (xs ++ allPtrs (ms ts) (t.fields.take k)) ∧ Ext [] w0 wr ∧ Fr w1 wr) (fun _ u _ => (t.fields.length - (intOf u)).toNat)
      case atStart => exact ⟨0, rfl, Nat.zero_le _, by simpa [allPtrs] using HO1.out, HE1.out, fun _ _ _ _ _ h => h⟩
      case round =>
        obtain ⟨k, rfl, hkl, hOk, hEk, hRk⟩ := hrel
        have HOk := hid hOk
        have HEk := hid hEk
        have HRk := hid hRk
        clear hOk hEk hRk
        by_cases hkm : k < t.fields.length
        · obtain ⟨fb, fo, rfl, hfc⟩ := HFO.out.1.at_ (by intro h; rw [h] at hkm; simp at hkm)
          have hck := HEk.out.cell (hfc k hkm) (by simp)
          clear hfc
          have hmem : t.fields.getD k 0 ∈ t.fields := by simp [List.getD, hkm]
          obtain ⟨p0, p1, _⟩ := HBW9.out _ hmem
          have hsn := allPtrs_snoc (ms ts) t.fields k hkm
          have htk := ptrs_take (ms ts) t.fields k hkm
          generalize t.fields.getD k 0 = p at *
          obtain ⟨j, rfl⟩ : ∃ j : Nat, p = j := ⟨p.toNat, by omega⟩
          have K := HIH.out j (by omega) (by omega) _ (xs ++ allPtrs (ms ts) (t.fields.take k)) wr HOk.out HEk.out (by
            have := HB.out
            rw [HP.out] at this
            rw [List.length_append]
            unfold M
            omega)
          have HSN := hid hsn
          clear hsn htk hmem
          go_wp2_with fail
          refine K.mono ?_
          clear K
          rintro e w2 ⟨v2, rfl, hO2, hE2, hR2⟩
          have HO2 := hid hO2
          have HE2 := hid hE2
          have HR2 := hid (HRk.out.trans hR2)
          clear hO2 hE2 hR2
          go_wp2_with fail
          go_roundw
          case rel => exact ⟨k + 1, by go_num, by omega, by rw [HSN.out, ← List.append_assoc]; exact HO2.out, HE2.out, HR2.out⟩
          case measure => simp [intOf]; omega
        · obtain rfl : k = t.fields.length := by omega
          go_wp2_with fail
          go_ret
          refine ⟨_, rfl, ?_, HEk.out, HR1.out.trans HRk.out⟩
          have := HOk.out
          rw [List.take_length] at this
          rw [HP.out]; exact this
    by_cases h9 : t.kind = 9
    · obtain ⟨hl1, hl2, hpw⟩ := HFL.out h9
      obtain ⟨L, hL⟩ : ∃ L : Nat, t.len = L := ⟨t.len.toNat, by omega⟩
      have hpp : parts t = List.replicate L t.elem := by unfold parts; rw [if_neg (by omega), if_pos h9, hL]; rfl
      have HP : Hid (m.ptrs = allPtrs (ms ts) (List.replicate L t.elem)) := by
        show _ = _
        rw [HM.out]; unfold meas; simp [h9, hpp]
      obtain ⟨j, hj⟩ : ∃ j : Nat, t.elem = j := ⟨t.elem.toNat, by have := hpw.1; omega⟩
      have hji : j < i := by have := hpw.2.1; omega
      rw [hj] at HP c1 HBX HE1 HO1 HR1
      rw [hL] at c3 HBX HE1 HO1 HR1
      rw [h9] at c0 HBX HE1 HO1 HR1
      have hL16 : L ≤ 16 := by omega
      clear h5 h4 h7 h8 h9 hpp hpw hj hL hl1 hl2
      go_enter Tryd.func37, Tryd.ntmps37
      go_wp2_with fail
      have HR0 : Hid (Fr w (w.alloc (.cells #[.int .i64 9, .int .i64 j, .int .i64 t.key, .int .i64 L, .slice fa t.fields.length fc] 48))) := HR1.out
      generalize w.alloc (.cells #[.int .i64 9, .int .i64 j, .int .i64 t.key, .int .i64 L, .slice fa t.fields.length fc] 48) = w1 at *
      go_loopw [0, 52] (fun lv u wr => ∃ k : Nat, u = .int .i64 k ∧ k ≤ L ∧ BOwn w0 wr lv (xs ++ allPtrs (ms ts) ((List.replicate L (j : Int)).take k)) ∧ Ext [] w0 wr ∧ Fr w1 wr) (fun _ u _ => (L - (intOf u)).toNat)
      case atStart => exact ⟨0, rfl, Nat.zero_le _, by simpa [allPtrs] using HO1.out, HE1.out, fun _ _ _ _ _ h => h⟩
      case round =>
        obtain ⟨k, rfl, hkl, hOk, hEk, hRk⟩ := hrel
        have HOk := hid hOk
        have HEk := hid hEk
        have HRk := hid hRk
        have hbx := hRk _ _ _ _ (by decide) HBX.out
        have hck : wr.cell? ⟨w.heap.size, 1, none⟩ = some (.int .i64 j) := by rw [cell_of_row _ _ _ _ _ _ hbx]; rfl
        clear hOk hEk hRk hbx
        by_cases hkm : k < L
        · have hsn := allPtrs_snoc (ms ts) (List.replicate L (j : Int)) k (by simpa using hkm)
          have htk := ptrs_take (ms ts) (List.replicate L (j : Int)) k (by simpa using hkm)
          rw [getD_rep L k j hkm] at hsn htk
          have K := HIH.out j (by omega) (by omega) _ (xs ++ allPtrs (ms ts) ((List.replicate L (j : Int)).take k)) wr HOk.out HEk.out (by
            have := HB.out
            rw [HP.out] at this
            rw [List.length_append]
            unfold M
            omega)
          have HSN := hid hsn
          clear hsn htk
          go_wp2_with fail
          refine K.mono ?_
          clear K
          rintro e w2 ⟨v2, rfl, hO2, hE2, hR2⟩
          have HO2 := hid hO2
          have HE2 := hid hE2
          have HR2 := hid (HRk.out.trans hR2)
          clear hO2 hE2 hR2
          go_wp2_with fail
          go_roundw
          case rel => exact ⟨k + 1, by go_num, by omega, by rw [HSN.out, ← List.append_assoc]; exact HO2.out, HE2.out, HR2.out⟩
          case measure => simp [intOf]; omega
        · obtain rfl : k = L := by omega
          go_wp2_with fail
          go_ret
          refine ⟨_, rfl, ?_, HEk.out, HR0.out.trans HRk.out⟩
          have := HOk.out
          rw [List.take_of_length_le (by simp)] at this
          rw [HP.out]; exact this
    · have HP : Hid (m.ptrs = [false]) := by
        show _ = _
        rw [HM.out]; unfold meas
        rw [if_neg h4, if_neg h7, if_neg (by omega), if_neg (by omega), if_neg (by omega)]
      obtain ⟨v', w', hr, hO', hE', hR'⟩ := app_bools w0 _ HE1.out v xs [false] HO1.out (by have := HB.out; rw [HP.out] at this; exact this) (w.heap.size + 1) 1 #[.bool false] (by simp) rfl rfl
      have HO' := hid hO'
      have HE' := hid hE'
      have HR' := hid (HR1.out.trans hR')
      have b5 : (t.kind == 5) = false := by simp; omega
      have b6 : (t.kind == 6) = false := by simp; omega
      have b10 : (t.kind == 10) = false := by simp; omega
      have b4 : (t.kind == 4) = false := by simpa using h4
      have b7 : (t.kind == 7) = false := by simpa using h7
      have b8 : (t.kind == 8) = false := by simpa using h8
      have b9 : (t.kind == 9) = false := by simpa using h9
      clear hO' hE' hR' h5 h4 h7 h8 h9
      go_enter Tryd.func37, Tryd.ntmps37
      go_wp2_with (at_builtin; refine wpList_append_run rfl _ _ 29 rfl _ _ _ rfl rfl hr ?_)
      go_ret
      exact ⟨v', rfl, by rw [HP.out]; exact HO'.out, HE'.out, HR'.out⟩

end Go.Proofs.YtfjbhpjgidgjaaaDoor
