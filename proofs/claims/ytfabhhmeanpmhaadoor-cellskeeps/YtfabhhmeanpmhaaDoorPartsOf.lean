/-
  The program's partsOf and appendKinds; no statement is proved here.
-/
import Derived.Test.YtfabhhmeanpmhaaDoorKinds
import Derived.Deep.OwnRows
namespace Go.Proofs.YtfabhhmeanpmhaaDoor
open Go.RowKit

/-- A list of ints that lies below B, or is new. -/
def LPost (B : Nat) (C : Prop) (w : World) (xs : List Int) (e : Ending) (w' : World) : Prop :=
  ∃ a c, e = .returned (.slice a xs.length c) ∧ Is w' a xs ∧ Ext [] w w' ∧ (∀ b o, a = some ⟨b, o, none⟩ → xs ≠ [] → b < B ∨ w.heap.size ≤ b) ∧ (C → xs.length ≤ c)

theorem is_row {w : World} {g : Nat} {cs : Array Value} {xs : List Int} (h : w.heap[g]? = some (.cells cs 3 (0, 0))) (hx : ∀ i, i < xs.length → cs[i]? = some (.int .i64 (xs.getD i 0))) : Is w (some ⟨g, 0, none⟩) xs := by
  refine .inr ⟨g, 0, rfl, fun j hj => ?_⟩
  rw [Nat.zero_add, cell_of_row _ _ _ _ _ _ h, hx j (by simpa using hj)]
  have : j < xs.length := by simpa using hj
  simp [this]

set_option maxRecDepth 100000 in
set_option maxHeartbeats 4000000 in
theorem partsOf_any (B : Nat) (t : Ty) (fa : Option Addr) (fc : Nat) (w : World) (hF : FOk w t fa) (h9 : t.kind = 9 → 0 ≤ t.len ∧ t.len ≤ 16) (hB : ∀ b o, fa = some ⟨b, o, none⟩ → t.fields ≠ [] → b < B) :
    Calls Tryd.prog 32 #[tyVal t fa fc] w (LPost B (t.fields.length ≤ fc) w (parts t)) := by
  unfold tyVal
  by_cases k8 : t.kind = 8
  · have HP := hid (parts8 k8)
    have HF := hid hF.1
    have HB := hid hB
    rw [k8]
    clear hF h9 hB k8
    go_enter Tryd.func32, Tryd.ntmps32
    go_wp2
    go_ret
    rw [HP.out]
    exact ⟨fa, fc, rfl, HF.out.keep0 (Ext.alloc _ _ _), Ext.alloc _ _ _, fun b o h h2 => .inl (HB.out b o h h2), id⟩
  · by_cases k9 : t.kind = 9
    · obtain ⟨n, hn⟩ : ∃ n : Nat, t.len = n := ⟨t.len.toNat, by have := h9 k9; omega⟩
      have hn16 : n ≤ 16 := by have := h9 k9; omega
      have HP : Hid (parts t = List.replicate n t.elem) := by show _ = _; rw [parts9 k9, hn]; rfl
      rw [k9, hn]
      have hmk := run_make_row' (P := Tryd.prog) 42 3 (.int .i64 0) 8 Tryd.underlying42 info3 rfl .i64 .i64 n (by omega) (by omega) (w.alloc (.cells #[.int .i64 9, .int .i64 t.elem, .int .i64 t.key, .int .i64 (n : Int), .slice fa t.fields.length fc] 45))
      clear hF h9 hB k8 k9 hn
      generalize t.fields.length = fl at *
      generalize t.elem = el at *
      generalize t.key = ky at *
      go_enter Tryd.func32, Tryd.ntmps32
      go_wp2_with fail
      have hb0 : ((w.alloc (.cells #[.int .i64 9, .int .i64 el, .int .i64 ky, .int .i64 (n : Int), .slice fa fl fc] 45)).alloc (.cells (madeCells #[.int .i64 0] n) 3)).cell? ⟨w.heap.size, 1, none⟩ = some (.int .i64 el) := by
        rw [cell_of_row _ _ _ _ _ _ (heap_alloc2_old _ _ _)]; rfl
      go_loopw [18] (fun u wr => ∃ k : Nat, u = .int .i64 k ∧ k ≤ n ∧ wr.cell? ⟨w.heap.size, 1, none⟩ = some (.int .i64 el) ∧ Ext [] w wr ∧ ∃ cs, wr.heap[w.heap.size + 1]? = some (.cells cs 3 (0, 0)) ∧ cs.size = n ∧ ∀ i, i < k → cs[i]? = some (.int .i64 el)) (fun u _ => (n - (intOf u)).toNat)
      case atStart => exact ⟨0, rfl, by omega, hb0, (Ext.alloc [] _ _).trans (Ext.alloc [] _ _), _, heap_alloc2_new _ _ _, size_madeCells _ _, fun i hi => by omega⟩
      case round =>
        obtain ⟨k, rfl, hk, hc, hE, cs, hr, hs, hv⟩ := hrel
        have HE := hid hE
        have HR := hid hr
        have HV := hid hv
        clear hE hv
        by_cases hlt : k < n
        · have hkn : (k : Int) < n := by omega
          have f1 : wr.frozen? ⟨w.heap.size + 1, k, none⟩ = false := frozen_of_row _ _ _ _ _ hr
          obtain ⟨z, q0⟩ : ∃ v, wr.cell? ⟨w.heap.size + 1, k, none⟩ = some v := ⟨cs[k]'(by omega), by rw [cell_of_row _ _ _ _ _ _ hr]; simp [hs, hlt]⟩
          clear hr
          go_wp2_with fail
          refine ⟨⟨k + 1, by go_num, by omega, (Ext.setCell [w.heap.size + 1] wr ⟨w.heap.size + 1, k, none⟩ _ (by simp)).cell hc (by simp), HE.out.on (Ext.setCell [w.heap.size + 1] wr ⟨w.heap.size + 1, k, none⟩ _ (by simp)) (by simp), _, heap_setCell_same _ _ _ _ _ _ HR.out, by simp [hs], fun i hi => ?_⟩, by simp [intOf]; omega⟩
          by_cases e : i = k
          · subst e; simp [hs, hlt]
          · simp only [Array.getElem?_setIfInBounds]
            rw [if_neg (by omega)]
            exact HV.out i (by omega)
        · obtain rfl : k = n := by omega
          clear hr
          go_wp2_with fail
          go_ret
          rw [HP.out]
          exact ⟨some ⟨w.heap.size + 1, 0, none⟩, k, by simp, is_row HR.out (fun i hi => by rw [HV.out i (by simpa using hi)]; simp at hi; simp [hi]), HE.out, fun b o h _ => (by cases h; right; omega), fun _ => by simp⟩
    · have HP := hid (parts0 k8 k9)
      have e8 : (t.kind == 8) = false := by simpa using k8
      have e9 : (t.kind == 9) = false := by simpa using k9
      clear hF h9 hB
      go_enter Tryd.func32, Tryd.ntmps32
      go_wp2
      go_ret
      rw [HP.out]
      exact ⟨none, 0, rfl, .inl rfl, Ext.alloc _ _ _, fun b o h => (by cases h), fun _ => Nat.le_refl _⟩

/-- Kinds behind a list of one's own. -/
def KPost (w0 w : World) (v : Value) (m : Nat) (xs ks : List Int) (e : Ending) (w' : World) : Prop :=
  ∃ v', e = .returned v' ∧ w'.ownsRow w0.heap.size 3 1 v' (m + ks.length) ((xs ++ ks).map (Value.int .i64)) ∧ Ext [] w0 w' ∧ Ext v.ownBlock.toList w w' ∧ (v'.ownBlock = v.ownBlock ∨ ∀ g, v'.ownBlock = some g → w.heap.size ≤ g)

theorem app1 (w0 w : World) (hE : Ext [] w0 w) (v : Value) (m : Nat) (xs : List Int) (hO : w.ownsRow w0.heap.size 3 1 v m (xs.map (Value.int .i64))) (k : Int) (hm : m ≤ 100000) :
    ∃ v' w', (Builtin.append_ #[42, 42] 42 #[v, .slice (some ⟨w.heap.size, 0, none⟩) 1 1]).run Tryd.prog (w.alloc (.cells #[.int .i64 k] 3)) = .ok v' w' ∧ KPost w0 w v m xs [k] (.returned v') w' := by
  have hE1 := Ext.alloc [] w (.cells #[.int .i64 k] 3)
  have hOw := own_keep0 hO hE1
  have holt := own_lt hO
  obtain ⟨v2, w4, hr2, hO2, hg2, _, hnew⟩ := run_append_own_at (P := Tryd.prog) _ w0.heap.size 42 42 3 _ _ 1 8 Tryd.underlying42 (info_parts info3).choose_spec.1 (info_parts info3).choose_spec.2.1 (info_parts info3).choose_spec.2.2.1 (info_parts info3).choose_spec.2.2.2 rfl (by decide) _ m _ hOw ⟨w.heap.size, 0, none⟩ 1 1 [.int .i64 k] rfl (fun j u hu => by
    rw [Addr.add_lit, cell_of_row _ _ _ _ _ _ (heap_alloc_new w (.cells #[.int .i64 k] 3)), Nat.zero_add, ← hu]; simp) (by simp [Value.oneCell']) (by unfold maxLen; omega) (by omega) (hE.trans hE1).size
  have hX2 : Ext v.ownBlock.toList _ w4 := Ext.grown hg2 (by intro q hq; simp [hq])
  refine ⟨v2, w4, hr2, v2, rfl, by simpa using hO2, (hE.trans hE1).on hX2 (fun x hx => (holt x (by simpa using hx)).1), (hE1.mono (by simp)).trans hX2, ?_⟩
  rcases hnew with h | h
  · exact .inl h
  · exact .inr (fun g hg => by rw [h] at hg; simp only [Option.some.injEq, World.size_alloc] at hg; omega)

theorem KPost.trans {w0 w w1 : World} {v v1 : Value} {m : Nat} {xs ks js : List Int} {e : Ending} {w2 : World} (h1 : KPost w0 w v m xs ks (.returned v1) w1) (h2 : KPost w0 w1 v1 (m + ks.length) (xs ++ ks) js e w2) : KPost w0 w v m xs (ks ++ js) e w2 := by
  obtain ⟨v1', hv, hO1, hE1, hX1, hN1⟩ := h1
  cases hv
  obtain ⟨v2, rfl, hO2, hE2, hX2, hN2⟩ := h2
  refine ⟨v2, rfl, by rw [List.length_append, ← Nat.add_assoc, ← List.append_assoc]; exact hO2, hE2, ?_, ?_⟩
  · have h3 := (hX1.mono (T := v.ownBlock.toList ++ v1.ownBlock.toList) (fun x hx => List.mem_append.2 (.inl hx))).trans (hX2.mono (fun x hx => List.mem_append.2 (.inr hx)))
    refine h3.drop (fun x hx => ?_)
    rcases List.mem_append.1 hx with h | h
    · exact .inl h
    · rcases hN1 with h' | h'
      · rw [h'] at h; exact .inl h
      · exact .inr (h' x (by simpa using h))
  · rcases hN2 with h | h
    · rcases hN1 with h' | h'
      · exact .inl (h.trans h')
      · exact .inr (fun g hg => h' g (by rw [← h]; exact hg))
    · exact .inr (fun g hg => Nat.le_trans hX1.size (h g hg))

theorem KPost.nil {w0 w : World} {v : Value} {m : Nat} {xs : List Int} (hO : w.ownsRow w0.heap.size 3 1 v m (xs.map (Value.int .i64))) (hE : Ext [] w0 w) : KPost w0 w v m xs [] (.returned v) w :=
  ⟨v, rfl, by simpa using hO, hE, Ext.refl _ _, .inl rfl⟩
/-- Ahead of it only what is new came. -/
theorem KPost.after {w0 w w1 : World} {v : Value} {m : Nat} {xs ks : List Int} {e : Ending} {w2 : World} (hE : Ext [] w w1) (h2 : KPost w0 w1 v m xs ks e w2) : KPost w0 w v m xs ks e w2 := by
  obtain ⟨v2, rfl, hO2, hE2, hX2, hN2⟩ := h2
  exact ⟨v2, rfl, hO2, hE2, (hE.mono (by simp)).trans hX2, hN2.imp id (fun h g hg => Nat.le_trans hE.size (h g hg))⟩

theorem tab_fb {w : World} {b o : Nat} {t : Ty} {fa : Option Addr} {fc : Nat} (h : TyAt w b o t fa fc) : ∀ b' o', fa = some ⟨b', o', none⟩ → t.fields ≠ [] → b' < w.heap.size := fun b' o' hf h0 => by
  obtain ⟨b2, o2, h1, h2⟩ := h.f.1.at_ h0
  rw [hf] at h1
  cases h1
  exact block_lt_of_cell (h2 0 (List.length_pos_iff.2 h0))

theorem parts_len {ts : List Ty} {t : Nat} (hF : Formed ts t) : (parts (tyAt ts t)).length ≤ 16 := by
  by_cases h8 : (tyAt ts t).kind = 8
  · rw [parts8 h8]; exact (hF.2.2.2.1 h8).2.1
  · by_cases h9 : (tyAt ts t).kind = 9
    · rw [parts9 h9]; have := hF.2.2.2.2.1 h9; simp; omega
    · rw [parts0 h8 h9]; simp

set_option maxRecDepth 100000 in
set_option maxHeartbeats 4000000 in
theorem appendKinds_any (ts : List Ty) (a : Option Addr) (n c : Nat) (hn : ts.length = n) (hS : AllOk ts) : ∀ (N t : Nat), t < N → t < n → ∀ (w0 w : World) (v : Value) (m : Nat) (xs : List Int), Tab w0 a ts → Ext [] w0 w → w.ownsRow w0.heap.size 3 1 v m (xs.map (Value.int .i64)) → m + (kinds ts t).length ≤ 10000 →
    Calls Tryd.prog 49 #[v, .slice a n c, .int .i64 t] w (KPost w0 w v m xs (kinds ts t)) := by
  intro N
  induction N with
  | zero => intro t h; omega
  | succ N ih =>
    intro t htN htn w0 w v m xs hT hE hO hm
    have hT1 := hT.keep0 hE
    obtain ⟨b, o, rfl, hat⟩ := hT1.addr (by omega)
    obtain ⟨fa, fc, hty⟩ := hat t (by omega)
    obtain ⟨b0, o0, hb0, hat0⟩ := hT.addr (by omega)
    cases hb0
    obtain ⟨fa0, fc0, hty0⟩ := hat0 t (by omega)
    have hfa : fa0 = fa ∧ fc0 = fc := by
      have h1 := hE.cell hty0.c4 (by simp)
      rw [hty.c4] at h1
      simp only [Option.some.injEq, Value.slice.injEq, true_and] at h1
      exact ⟨h1.1.symm, h1.2.symm⟩
    obtain ⟨rfl, rfl⟩ := hfa
    have hfb := tab_fb hty0
    have hF := (hS t (by omega)).1
    have K1 := partsOf_any w0.heap.size (tyAt ts t) fa0 fc0 w hty.f (fun h9 => by have := hF.2.2.2.2.1 h9; omega) hfb
    have hke := kinds_eq hS (t := (t : Int)) (by omega) (by omega)
    have hbel := hF.below
    have hpl := parts_len hF
    obtain ⟨c0, c1, c2, c3, c4, hfo⟩ := hty
    have HT := hid hT
    have HE := hid hE
    have HO := hid hO
    have HM := hid hm
    have HIH := hid ih
    have HBL := hid hbel
    have HKE := hid hke
    have HFL := hid hfb
    clear hT hT1 hE hO hm ih hbel hke hat hat0 hty0 hfo hfb
    unfold tyVal at K1
    generalize hps : parts (tyAt ts t) = ps at *
    have h3 : t < n := htn
    go_enter Tryd.func49, Tryd.ntmps49
    go_wp2_with (go_at_call 32; refine K1.mono ?_; rintro e w1 ⟨ia, ic, rfl, hIs, hE1, hib, _⟩)
    have hol := own_lt HO.out
    have HI0 : Hid (∀ b o, ia = some ⟨b, o, none⟩ → ps ≠ [] → v.ownBlock ≠ some b) := fun b o h1 h2 h3 => by
      have h4 := hol b h3
      rcases hib b o h1 h2 with h | h <;> omega
    have HIs := hid hIs
    have HE1 := hid hE1
    have HP0 : Hid (KPost w0 w1 v m xs [] (.returned v) w1) := KPost.nil (own_keep0 HO.out hE1) (HE.out.trans hE1)
    clear hIs hE1 hib hol K1 c0 c1 c2 c3 c4
    go_loopw [0, 17] (fun lv q wr => ∃ k : Nat, q = .int .i64 k ∧ k ≤ ps.length ∧ Is wr ia ps ∧ (∀ b o, ia = some ⟨b, o, none⟩ → ps ≠ [] → lv.ownBlock ≠ some b) ∧ KPost w0 w1 v m xs ((ps.take k).flatMap (kinds ts)) (.returned lv) wr) (fun _ q _ => (ps.length - (intOf q)).toNat)
    case atStart => exact ⟨0, rfl, Nat.zero_le _, HIs.out, HI0.out, by simpa using HP0.out⟩
    case round =>
      obtain ⟨k, rfl, hk, hIsk, hIk, hPk⟩ := hrel
      have HIsk := hid hIsk
      have HIk := hid hIk
      have HPk := hid hPk
      obtain ⟨v', hv', hOk, hEk, hXk, hNk⟩ := hPk
      cases hv'
      by_cases hlt : k < ps.length
      · have h0 : ps ≠ [] := fun e => by rw [e] at hlt; simp at hlt
        obtain ⟨ib, io, rfl, hcs⟩ := hIsk.at_ h0
        have hck := hcs k hlt
        have hpk : ps.getD k 0 = ps[k] := by simp [hlt]
        have hbp := HBL.out (ps.getD k 0) (by rw [hpk]; exact List.getElem_mem hlt)
        obtain ⟨p, hp⟩ : ∃ p : Nat, ps.getD k 0 = p := ⟨(ps.getD k 0).toNat, by omega⟩
        have htk : (ps.take (k + 1)).flatMap (kinds ts) = (ps.take k).flatMap (kinds ts) ++ kinds ts p := by
          rw [List.take_succ_eq_append_getElem hlt, List.flatMap_append, ← hpk, hp]; simp
        have hle : ((ps.take (k + 1)).flatMap (kinds ts)).length ≤ (kinds ts t).length := by
          rw [HKE.out, if_neg h0]
          conv => rhs; rw [← List.take_append_drop (k + 1) ps, List.flatMap_append, List.length_append]
          omega
        rw [htk, List.length_append] at hle
        have K := HIH.out p (by omega) (by omega) w0 wr u0 _ _ HT.out hEk hOk (by have := HM.out; omega)
        have HTK := hid htk
        have hilt : ib < wr.heap.size := block_lt_of_cell hck
        rw [hp] at hck
        have hkl : (k : Int) < ps.length := by omega
        clear hOk hEk hXk hNk hcs hpk hbp htk hle hIsk hIk
        go_wp2_with (go_at_call 49; refine K.mono ?_; rintro e w2 ⟨v2, rfl, hK2⟩)
        obtain ⟨hO2, hE2, hX2, hN2⟩ := id hK2
        refine ⟨⟨k + 1, by go_num, by omega, ?_, ?_, ?_⟩, by simp [intOf]; omega⟩
        · exact Vs.keep HIsk.out hX2 (fun ad had hm => by cases had; exact HIk.out ib io rfl h0 (by simpa using hm))
        · intro b' o' hb' h0' hv'
          cases hb'
          rcases hN2 with h | h
          · rw [h] at hv'; exact HIk.out _ _ rfl h0' hv'
          · have := h _ hv'; omega
        · rw [HTK.out]
          exact HPk.out.trans ⟨v2, rfl, hK2⟩
      · obtain rfl : k = ps.length := by omega
        rw [List.take_length] at HPk
        clear hlt hk hIsk hIk
        by_cases h0 : ps = []
        · subst h0
          obtain ⟨b2, o2, hb2, hat2⟩ := (HT.out.keep0 hEk).addr (by omega)
          cases hb2
          obtain ⟨fa2, fc2, hty2⟩ := hat2 t (by omega)
          have c0 := hty2.c0
          replace hOk : wr.ownsRow w0.heap.size 3 1 u0 m (xs.map (Value.int .i64)) := by simpa using hOk
          obtain ⟨v3, w3, hr3, hP3⟩ := app1 w0 wr hEk u0 m xs hOk (tyAt ts t).kind (by have := HM.out; omega)
          have HK1 : Hid (kinds ts t = [(tyAt ts t).kind]) := by show _ = _; have := HKE.out; simpa using this
          have HP3 := hid hP3
          clear hat2 hty2 hOk hEk hXk hNk hP3
          generalize (tyAt ts t).kind = kd at *
          go_wp2_with (at_builtin; refine wpList_append_run rfl _ _ 42 rfl _ _ _ rfl rfl hr3 ?_)
          go_ret
          rw [HK1.out]
          exact KPost.after HE1.out (by simpa using HPk.out.trans (js := [kd]) (by simpa using HP3.out))
        · have h1 : ((ps.length : Int) == 0) = false := by have := List.length_pos_iff.2 h0; simp; omega
          have HK1 : Hid (kinds ts t = ps.flatMap (kinds ts)) := by have := HKE.out; rwa [if_neg h0] at this
          clear hOk hEk hXk hNk
          go_wp2_with fail
          go_ret
          rw [HK1.out]
          exact KPost.after HE1.out HPk.out

end Go.Proofs.YtfabhhmeanpmhaaDoor
