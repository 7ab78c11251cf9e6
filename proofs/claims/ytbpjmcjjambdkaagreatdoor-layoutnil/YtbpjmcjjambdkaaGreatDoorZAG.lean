/-
  TPartsOf, TSize, TSound: joined by program; no statement is proved here.
-/
import Derived.Test.YtbpjmcjjambdkaaGreatDoorZAF
import Derived.Deep.OwnRows
import Derived.Test.YtbpjmcjjambdkaaGreatDoorZAD
import Derived.Laws.EntriesVeiled
import Derived.Deep.Cut
/-
  The program's partsOf and appendKinds; no statement is proved here.
-/
namespace Go.Proofs.YtbpjmcjjambdkaaGreatDoor.Ty
open Go.RowKit

/-- A list of ints that lies below B, or is new. -/
def LPost (B : Nat) (C : Prop) (w : World) (xs : List Int) (e : Ending) (w' : World) : Prop :=
  ∃ a c, e = .returned (.slice a xs.length c) ∧ Is w' a xs ∧ Ext [] w w' ∧ (∀ b o, a = some ⟨b, o, none⟩ → xs ≠ [] → b < B ∨ w.heap.size ≤ b) ∧ (C → xs.length ≤ c)

theorem is_row {w : World} {g : Nat} {cs : Array Value} {xs : List Int} (h : w.heap[g]? = some (.cells cs 3 (0, 0))) (hx : ∀ i, i < xs.length → cs[i]? = some (.int .i64 (xs.getD i 0))) : Is w (some ⟨g, 0, none⟩) xs := by
  refine .inr ⟨g, 0, rfl, fun j hj => ?_⟩
  rw [Nat.zero_add, cell_of_row _ _ _ _ _ _ h, hx j (by simpa using hj)]
  have : j < xs.length := by simpa using hj
  simp [this]

set_option maxRecDepth 100000 in
set_option maxHeartbeats 4000000 in
theorem partsOf_any (B : Nat) (t : Ty) (fa : Option Addr) (fc : Nat) (w : World) (hF : FOk w t fa) (h9 : t.kind = 9 → 0 ≤ t.len ∧ t.len ≤ 16) (hB : ∀ b o, fa = some ⟨b, o, none⟩ → t.fields ≠ [] → b < B) :
    Calls Tryz.prog 198 #[tyVal t fa fc] w (LPost B (t.fields.length ≤ fc) w (parts t)) := by
  unfold tyVal
  by_cases k8 : t.kind = 8
  · have HP := hid (parts8 k8)
    have HF := hid hF.1
    have HB := hid hB
    rw [k8]
    clear hF h9 hB k8
    go_enter Tryz.func198, Tryz.ntmps198
    go_wp2
    go_ret
    rw [HP.out]
    exact ⟨fa, fc, rfl, HF.out.keep0 (Ext.alloc _ _ _), Ext.alloc _ _ _, fun b o h h2 => .inl (HB.out b o h h2), id⟩
  · by_cases k9 : t.kind = 9
    · obtain ⟨n, hn⟩ : ∃ n : Nat, t.len = n := ⟨t.len.toNat, by have := h9 k9; omega⟩
      have hn16 : n ≤ 16 := by have := h9 k9; omega
      have HP : Hid (parts t = List.replicate n t.elem) := by show _ = _; rw [parts9 k9, hn]; rfl
      rw [k9, hn]
      have hmk := run_make_row' (P := Tryz.prog) 29 3 (.int .i64 0) 8 Tryz.underlying29 info3 rfl .i64 .i64 n (by omega) (by omega) (w.alloc (.cells #[.int .i64 9, .int .i64 t.elem, .int .i64 t.key, .int .i64 (n : Int), .slice fa t.fields.length fc] 56))
      clear hF h9 hB k8 k9 hn
      generalize t.fields.length = fl at *
      generalize t.elem = el at *
      generalize t.key = ky at *
      go_enter Tryz.func198, Tryz.ntmps198
      go_wp2_with fail
      have hb0 : ((w.alloc (.cells #[.int .i64 9, .int .i64 el, .int .i64 ky, .int .i64 (n : Int), .slice fa fl fc] 56)).alloc (.cells (madeCells #[.int .i64 0] n) 3)).cell? ⟨w.heap.size, 1, none⟩ = some (.int .i64 el) := by
        rw [cell_of_row _ _ _ _ _ _ (heap_alloc2_old _ _ _)]; rfl
      go_loopw [18] (fun u wr => ∃ k : Nat, u = .int .i64 k ∧ k ≤ n ∧ wr.cell? ⟨w.heap.size, 1, none⟩ = some (.int .i64 el) ∧ Ext [] w wr ∧ ∃ cs, wr.heap[w.heap.size + 1]? = some (.cells cs 3 (0, 0)) ∧ cs.size = n ∧ ∀ i, i < k → cs[i]? = some (.int .i64 el)) (fun u _ => (n - (intOf u)).toNat)
      case atStart => exact ⟨0, rfl, by omega, hb0, (Ext.alloc [] _ _).trans (Ext.alloc [] _ _), _, heap_alloc2_new _ _ _, size_madeCells _ _, fun i hi => by omega⟩
      case round =>
        obtain ⟨k, rfl, hk, hc, hE, cs, hr, hs, hv⟩ := hrel
        have HE := hid hE
        have HR := hid hr
        have HV := hid hv
        clear hE hv
        by_cases hlt : k < n
        · have hkn : (k : Int) < n := by omega
          have f1 : wr.frozen? ⟨w.heap.size + 1, k, none⟩ = false := frozen_of_row _ _ _ _ _ hr
          obtain ⟨z, q0⟩ : ∃ v, wr.cell? ⟨w.heap.size + 1, k, none⟩ = some v := ⟨cs[k]'(by omega), by rw [cell_of_row _ _ _ _ _ _ hr]; simp [hs, hlt]⟩
          clear hr
          go_wp2_with fail
          refine ⟨⟨k + 1, by go_num, by omega, (Ext.setCell [w.heap.size + 1] wr ⟨w.heap.size + 1, k, none⟩ _ (by simp)).cell hc (by simp), HE.out.on (Ext.setCell [w.heap.size + 1] wr ⟨w.heap.size + 1, k, none⟩ _ (by simp)) (by simp), _, heap_setCell_same _ _ _ _ _ _ HR.out, by simp [hs], fun i hi => ?_⟩, by simp [intOf]; omega⟩
          by_cases e : i = k
          · subst e; simp [hs, hlt]
          · simp only [Array.getElem?_setIfInBounds]
            rw [if_neg (by omega)]
            exact HV.out i (by omega)
        · obtain rfl : k = n := by omega
          clear hr
          go_wp2_with fail
          go_ret
          rw [HP.out]
          exact ⟨some ⟨w.heap.size + 1, 0, none⟩, k, by simp, is_row HR.out (fun i hi => by rw [HV.out i (by simpa using hi)]; simp at hi; simp [hi]), HE.out, fun b o h _ => (by cases h; right; omega), fun _ => by simp⟩
    · have HP := hid (parts0 k8 k9)
      have e8 : (t.kind == 8) = false := by simpa using k8
      have e9 : (t.kind == 9) = false := by simpa using k9
      clear hF h9 hB
      go_enter Tryz.func198, Tryz.ntmps198
      go_wp2
      go_ret
      rw [HP.out]
      exact ⟨none, 0, rfl, .inl rfl, Ext.alloc _ _ _, fun b o h => (by cases h), fun _ => Nat.le_refl _⟩

/-- Kinds behind a list of one's own. -/
def KPost (w0 w : World) (v : Value) (m : Nat) (xs ks : List Int) (e : Ending) (w' : World) : Prop :=
  ∃ v', e = .returned v' ∧ w'.ownsRow w0.heap.size 3 1 v' (m + ks.length) ((xs ++ ks).map (Value.int .i64)) ∧ Ext [] w0 w' ∧ Ext v.ownBlock.toList w w' ∧ (v'.ownBlock = v.ownBlock ∨ ∀ g, v'.ownBlock = some g → w.heap.size ≤ g)

theorem app1 (w0 w : World) (hE : Ext [] w0 w) (v : Value) (m : Nat) (xs : List Int) (hO : w.ownsRow w0.heap.size 3 1 v m (xs.map (Value.int .i64))) (k : Int) (hm : m ≤ 100000) :
    ∃ v' w', (Builtin.append_ #[29, 29] 29 #[v, .slice (some ⟨w.heap.size, 0, none⟩) 1 1]).run Tryz.prog (w.alloc (.cells #[.int .i64 k] 3)) = .ok v' w' ∧ KPost w0 w v m xs [k] (.returned v') w' := by
  have hE1 := Ext.alloc [] w (.cells #[.int .i64 k] 3)
  have hOw := own_keep0 hO hE1
  have holt := own_lt hO
  obtain ⟨v2, w4, hr2, hO2, hg2, _, hnew⟩ := run_append_own_at (P := Tryz.prog) _ w0.heap.size 29 29 3 _ _ 1 8 Tryz.underlying29 (info_parts info3).choose_spec.1 (info_parts info3).choose_spec.2.1 (info_parts info3).choose_spec.2.2.1 (info_parts info3).choose_spec.2.2.2 rfl (by decide) _ m _ hOw ⟨w.heap.size, 0, none⟩ 1 1 [.int .i64 k] rfl (fun j u hu => by
    rw [Addr.add_lit, cell_of_row _ _ _ _ _ _ (heap_alloc_new w (.cells #[.int .i64 k] 3)), Nat.zero_add, ← hu]; simp) (by simp [Value.oneCell']) (by unfold maxLen; omega) (by omega) (hE.trans hE1).size
  have hX2 : Ext v.ownBlock.toList _ w4 := Ext.grown hg2 (by intro q hq; simp [hq])
  refine ⟨v2, w4, hr2, v2, rfl, by simpa using hO2, (hE.trans hE1).on hX2 (fun x hx => (holt x (by simpa using hx)).1), (hE1.mono (by simp)).trans hX2, ?_⟩
  rcases hnew with h | h
  · exact .inl h
  · exact .inr (fun g hg => by rw [h] at hg; simp only [Option.some.injEq, World.size_alloc] at hg; omega)

theorem KPost.trans {w0 w w1 : World} {v v1 : Value} {m : Nat} {xs ks js : List Int} {e : Ending} {w2 : World} (h1 : KPost w0 w v m xs ks (.returned v1) w1) (h2 : KPost w0 w1 v1 (m + ks.length) (xs ++ ks) js e w2) : KPost w0 w v m xs (ks ++ js) e w2 := by
  obtain ⟨v1', hv, hO1, hE1, hX1, hN1⟩ := h1
  cases hv
  obtain ⟨v2, rfl, hO2, hE2, hX2, hN2⟩ := h2
  refine ⟨v2, rfl, by rw [List.length_append, ← Nat.add_assoc, ← List.append_assoc]; exact hO2, hE2, ?_, ?_⟩
  · have h3 := (hX1.mono (T := v.ownBlock.toList ++ v1.ownBlock.toList) (fun x hx => List.mem_append.2 (.inl hx))).trans (hX2.mono (fun x hx => List.mem_append.2 (.inr hx)))
    refine h3.drop (fun x hx => ?_)
    rcases List.mem_append.1 hx with h | h
    · exact .inl h
    · rcases hN1 with h' | h'
      · rw [h'] at h; exact .inl h
      · exact .inr (h' x (by simpa using h))
  · rcases hN2 with h | h
    · rcases hN1 with h' | h'
      · exact .inl (h.trans h')
      · exact .inr (fun g hg => h' g (by rw [← h]; exact hg))
    · exact .inr (fun g hg => Nat.le_trans hX1.size (h g hg))

theorem KPost.nil {w0 w : World} {v : Value} {m : Nat} {xs : List Int} (hO : w.ownsRow w0.heap.size 3 1 v m (xs.map (Value.int .i64))) (hE : Ext [] w0 w) : KPost w0 w v m xs [] (.returned v) w :=
  ⟨v, rfl, by simpa using hO, hE, Ext.refl _ _, .inl rfl⟩
/-- Ahead of it only what is new came. -/
theorem KPost.after {w0 w w1 : World} {v : Value} {m : Nat} {xs ks : List Int} {e : Ending} {w2 : World} (hE : Ext [] w w1) (h2 : KPost w0 w1 v m xs ks e w2) : KPost w0 w v m xs ks e w2 := by
  obtain ⟨v2, rfl, hO2, hE2, hX2, hN2⟩ := h2
  exact ⟨v2, rfl, hO2, hE2, (hE.mono (by simp)).trans hX2, hN2.imp id (fun h g hg => Nat.le_trans hE.size (h g hg))⟩

theorem tab_fb {w : World} {b o : Nat} {t : Ty} {fa : Option Addr} {fc : Nat} (h : TyAt w b o t fa fc) : ∀ b' o', fa = some ⟨b', o', none⟩ → t.fields ≠ [] → b' < w.heap.size := fun b' o' hf h0 => by
  obtain ⟨b2, o2, h1, h2⟩ := h.f.1.at_ h0
  rw [hf] at h1
  cases h1
  exact block_lt_of_cell (h2 0 (List.length_pos_iff.2 h0))

theorem parts_len {ts : List Ty} {t : Nat} (hF : Formed ts t) : (parts (tyAt ts t)).length ≤ 16 := by
  by_cases h8 : (tyAt ts t).kind = 8
  · rw [parts8 h8]; exact (hF.2.2.2.1 h8).2.1
  · by_cases h9 : (tyAt ts t).kind = 9
    · rw [parts9 h9]; have := hF.2.2.2.2.1 h9; simp; omega
    · rw [parts0 h8 h9]; simp

set_option maxRecDepth 100000 in
set_option maxHeartbeats 4000000 in
theorem appendKinds_any (ts : List Ty) (a : Option Addr) (n c : Nat) (hn : ts.length = n) (hS : AllOk ts) : ∀ (N t : Nat), t < N → t < n → ∀ (w0 w : World) (v : Value) (m : Nat) (xs : List Int), Tab w0 a ts → Ext [] w0 w → w.ownsRow w0.heap.size 3 1 v m (xs.map (Value.int .i64)) → m + (kinds ts t).length ≤ 10000 →
    Calls Tryz.prog 171 #[v, .slice a n c, .int .i64 t] w (KPost w0 w v m xs (kinds ts t)) := by
  intro N
  induction N with
  | zero => intro t h; omega
  | succ N ih =>
    intro t htN htn w0 w v m xs hT hE hO hm
    have hT1 := hT.keep0 hE
    obtain ⟨b, o, rfl, hat⟩ := hT1.addr (by omega)
    obtain ⟨fa, fc, hty⟩ := hat t (by omega)
    obtain ⟨b0, o0, hb0, hat0⟩ := hT.addr (by omega)
    cases hb0
    obtain ⟨fa0, fc0, hty0⟩ := hat0 t (by omega)
    have hfa : fa0 = fa ∧ fc0 = fc := by
      have h1 := hE.cell hty0.c4 (by simp)
      rw [hty.c4] at h1
      simp only [Option.some.injEq, Value.slice.injEq, true_and] at h1
      exact ⟨h1.1.symm, h1.2.symm⟩
    obtain ⟨rfl, rfl⟩ := hfa
    have hfb := tab_fb hty0
    have hF := (hS t (by omega)).1
    have K1 := partsOf_any w0.heap.size (tyAt ts t) fa0 fc0 w hty.f (fun h9 => by have := hF.2.2.2.2.1 h9; omega) hfb
    have hke := kinds_eq hS (t := (t : Int)) (by omega) (by omega)
    have hbel := hF.below
    have hpl := parts_len hF
    obtain ⟨c0, c1, c2, c3, c4, hfo⟩ := hty
    have HT := hid hT
    have HE := hid hE
    have HO := hid hO
    have HM := hid hm
    have HIH := hid ih
    have HBL := hid hbel
    have HKE := hid hke
    have HFL := hid hfb
    clear hT hT1 hE hO hm ih hbel hke hat hat0 hty0 hfo hfb
    unfold tyVal at K1
    generalize hps : parts (tyAt ts t) = ps at *
    have h3 : t < n := htn
    go_enter Tryz.func171, Tryz.ntmps171
    go_wp2_with (go_at_call 198; refine K1.mono ?_; rintro e w1 ⟨ia, ic, rfl, hIs, hE1, hib, _⟩)
    have hol := own_lt HO.out
    have HI0 : Hid (∀ b o, ia = some ⟨b, o, none⟩ → ps ≠ [] → v.ownBlock ≠ some b) := fun b o h1 h2 h3 => by
      have h4 := hol b h3
      rcases hib b o h1 h2 with h | h <;> omega
    have HIs := hid hIs
    have HE1 := hid hE1
    have HP0 : Hid (KPost w0 w1 v m xs [] (.returned v) w1) := KPost.nil (own_keep0 HO.out hE1) (HE.out.trans hE1)
    clear hIs hE1 hib hol K1 c0 c1 c2 c3 c4
    go_loopw [0, 17] (fun lv q wr => ∃ k : Nat, q = .int .i64 k ∧ k ≤ ps.length ∧ Is wr ia ps ∧ (∀ b o, ia = some ⟨b, o, none⟩ → ps ≠ [] → lv.ownBlock ≠ some b) ∧ KPost w0 w1 v m xs ((ps.take k).flatMap (kinds ts)) (.returned lv) wr) (fun _ q _ => (ps.length - (intOf q)).toNat)
    case atStart => exact ⟨0, rfl, Nat.zero_le _, HIs.out, HI0.out, by simpa using HP0.out⟩
    case round =>
      obtain ⟨k, rfl, hk, hIsk, hIk, hPk⟩ := hrel
      have HIsk := hid hIsk
      have HIk := hid hIk
      have HPk := hid hPk
      obtain ⟨v', hv', hOk, hEk, hXk, hNk⟩ := hPk
      cases hv'
      by_cases hlt : k < ps.length
      · have h0 : ps ≠ [] := fun e => by rw [e] at hlt; simp at hlt
        obtain ⟨ib, io, rfl, hcs⟩ := hIsk.at_ h0
        have hck := hcs k hlt
        have hpk : ps.getD k 0 = ps[k] := by simp [hlt]
        have hbp := HBL.out (ps.getD k 0) (by rw [hpk]; exact List.getElem_mem hlt)
        obtain ⟨p, hp⟩ : ∃ p : Nat, ps.getD k 0 = p := ⟨(ps.getD k 0).toNat, by omega⟩
        have htk : (ps.take (k + 1)).flatMap (kinds ts) = (ps.take k).flatMap (kinds ts) ++ kinds ts p := by
          rw [List.take_succ_eq_append_getElem hlt, List.flatMap_append, ← hpk, hp]; simp
        have hle : ((ps.take (k + 1)).flatMap (kinds ts)).length ≤ (kinds ts t).length := by
          rw [HKE.out, if_neg h0]
          conv => rhs; rw [← List.take_append_drop (k + 1) ps, List.flatMap_append, List.length_append]
          omega
        rw [htk, List.length_append] at hle
        have K := HIH.out p (by omega) (by omega) w0 wr u0 _ _ HT.out hEk hOk (by have := HM.out; omega)
        have HTK := hid htk
        have hilt : ib < wr.heap.size := block_lt_of_cell hck
        rw [hp] at hck
        have hkl : (k : Int) < ps.length := by omega
        clear hOk hEk hXk hNk hcs hpk hbp htk hle hIsk hIk
        go_wp2_with (go_at_call 171; refine K.mono ?_; rintro e w2 ⟨v2, rfl, hK2⟩)
        obtain ⟨hO2, hE2, hX2, hN2⟩ := id hK2
        refine ⟨⟨k + 1, by go_num, by omega, ?_, ?_, ?_⟩, by simp [intOf]; omega⟩
        · exact Vs.keep HIsk.out hX2 (fun ad had hm => by cases had; exact HIk.out ib io rfl h0 (by simpa using hm))
        · intro b' o' hb' h0' hv'
          cases hb'
          rcases hN2 with h | h
          · rw [h] at hv'; exact HIk.out _ _ rfl h0' hv'
          · have := h _ hv'; omega
        · rw [HTK.out]
          exact HPk.out.trans ⟨v2, rfl, hK2⟩
      · obtain rfl : k = ps.length := by omega
        rw [List.take_length] at HPk
        clear hlt hk hIsk hIk
        by_cases h0 : ps = []
        · subst h0
          obtain ⟨b2, o2, hb2, hat2⟩ := (HT.out.keep0 hEk).addr (by omega)
          cases hb2
          obtain ⟨fa2, fc2, hty2⟩ := hat2 t (by omega)
          have c0 := hty2.c0
          replace hOk : wr.ownsRow w0.heap.size 3 1 u0 m (xs.map (Value.int .i64)) := by simpa using hOk
          obtain ⟨v3, w3, hr3, hP3⟩ := app1 w0 wr hEk u0 m xs hOk (tyAt ts t).kind (by have := HM.out; omega)
          have HK1 : Hid (kinds ts t = [(tyAt ts t).kind]) := by show _ = _; have := HKE.out; simpa using this
          have HP3 := hid hP3
          clear hat2 hty2 hOk hEk hXk hNk hP3
          generalize (tyAt ts t).kind = kd at *
          go_wp2_with (at_builtin; refine wpList_append_run rfl _ _ 29 rfl _ _ _ rfl rfl hr3 ?_)
          go_ret
          rw [HK1.out]
          exact KPost.after HE1.out (by simpa using HPk.out.trans (js := [kd]) (by simpa using HP3.out))
        · have h1 : ((ps.length : Int) == 0) = false := by have := List.length_pos_iff.2 h0; simp; omega
          have HK1 : Hid (kinds ts t = ps.flatMap (kinds ts)) := by have := HKE.out; rwa [if_neg h0] at this
          clear hOk hEk hXk hNk
          go_wp2_with fail
          go_ret
          rw [HK1.out]
          exact KPost.after HE1.out HPk.out

end Go.Proofs.YtbpjmcjjambdkaaGreatDoor.Ty

/-
  The program's Size: the cells of a list and of all boxes within it, up to one more than may be; no statement is proved here.
-/
namespace Go.Proofs.YtbpjmcjjambdkaaGreatDoor.Ty
open Go.RowKit

/-- The two variables of Size. -/
structure Sz (w0 w : World) (sb cb : Nat) (s : Nat) : Prop where
  ext : Ext [] w0 w
  hs : w.heap[sb]? = some (.cells #[.int .i64 s] 3 (0, 0))
  hc : w.heap[cb]? = some (.cells #[.func (.func 197) #[] #[.pointer (some ⟨sb, 0, none⟩), .pointer (some ⟨cb, 0, none⟩)]] 258 (0, 0))
  s0 : w0.heap.size ≤ sb
  c0 : w0.heap.size ≤ cb
theorem Sz.cs {w0 w : World} {sb cb s : Nat} (h : Sz w0 w sb cb s) : w.cell? ⟨sb, 0, none⟩ = some (.int .i64 s) := by rw [cell_of_row _ _ _ _ _ _ h.hs]; rfl
theorem Sz.cc {w0 w : World} {sb cb s : Nat} (h : Sz w0 w sb cb s) : w.cell? ⟨cb, 0, none⟩ = some (.func (.func 197) #[] #[.pointer (some ⟨sb, 0, none⟩), .pointer (some ⟨cb, 0, none⟩)]) := by rw [cell_of_row _ _ _ _ _ _ h.hc]; rfl
theorem Sz.fr {w0 w : World} {sb cb s : Nat} (h : Sz w0 w sb cb s) : w.frozen? ⟨sb, 0, none⟩ = false := frozen_of_row _ _ _ _ _ h.hs
theorem Sz.ne {w0 w : World} {sb cb s : Nat} (h : Sz w0 w sb cb s) : sb ≠ cb := fun e => by
  have h1 := h.hs
  rw [e, h.hc] at h1
  simp at h1
theorem Sz.alloc {w0 w : World} {sb cb s : Nat} (h : Sz w0 w sb cb s) (o : Obj) : Sz w0 (w.alloc o) sb cb s :=
  ⟨h.ext.trans (Ext.alloc _ _ _), (Ext.alloc [] _ _).keep h.hs (by simp), (Ext.alloc [] _ _).keep h.hc (by simp), h.s0, h.c0⟩
theorem row_set1 {w : World} {q : Nat} {T : TypeId} {v v' : Value} (h : w.heap[q]? = some (.cells #[v] T (0, 0))) : (w.setCell ⟨q, 0, none⟩ v').heap[q]? = some (.cells #[v'] T (0, 0)) := by
  rw [heap_setCell_same w q 0 _ _ _ h]; rfl
theorem Sz.set {w0 w : World} {sb cb s : Nat} (h : Sz w0 w sb cb s) (s' : Nat) : Sz w0 (w.setCell ⟨sb, 0, none⟩ (.int .i64 s')) sb cb s' :=
  ⟨(h.ext).on (Ext.setCell [sb] _ _ _ (by simp)) (by have := h.s0; simpa using this), row_set1 h.hs, (Ext.setCell [sb] _ _ _ (by simp)).keep h.hc (by simpa using h.ne.symm), h.s0, h.c0⟩

theorem totL_drop (l : List Cl) (k : Nat) : totL l = totL (l.take k) + totL (l.drop k) ∧ l.length - k ≤ totL (l.drop k) := by
  have h1 := totL_append (l.take k) (l.drop k)
  rw [List.take_append_drop] at h1
  have h2 := totL_len (l.drop k)
  rw [List.length_drop] at h2
  exact ⟨h1, h2⟩

set_option maxRecDepth 100000 in
set_option maxHeartbeats 4000000 in
theorem count1_any : ∀ (d : Nat) (a : Option Addr) (l : List Cl) (n c s sb cb : Nat) (w0 w : World), Cs d w0 a l → l.length = n → s ≤ 257 → Sz w0 w sb cb s →
    Calls Tryz.prog 197 #[.slice a n c, .pointer (some ⟨sb, 0, none⟩), .pointer (some ⟨cb, 0, none⟩)] w fun e w' => e = .returned (.tuple #[]) ∧ Sz w0 w' sb cb (min (s + totL l) 257) := by
  intro d
  induction d with
  | zero =>
    intro a l n c s sb cb w0 w hC hn hs hZ
    obtain rfl : l = [] := hC
    obtain rfl : n = 0 := by simpa using hn.symm
    have e1 : min (s + totL []) 257 = s := by simp [totL]; omega
    rw [e1]
    have hs2 : (s : Int) ≤ 257 := by omega
    have e2 : IntKind.wrap .i64 (s : Int) = (s : Int) := by rw [IntKind.wrap_i64]; omega
    have c0 := hZ.cs
    have f0 := hZ.fr
    have HZ1 := hid (hZ.set s)
    clear hZ
    go_enter Tryz.func197, Tryz.ntmps197
    go_wp2_with fail
    go_loopw [13] (fun q wr => q = .int .i64 0 ∧ Sz w0 wr sb cb s) (fun _ _ => 0)
    case atStart => exact ⟨rfl, HZ1.out⟩
    case round =>
      obtain ⟨rfl, hZ⟩ := hrel
      have HZ := hid hZ
      clear hZ
      go_wp2_with fail
      go_end0
      exact ⟨rfl, HZ.out⟩
  | succ d ih =>
    intro a l n c s sb cb w0 w hC hn hs hZ
    have HC := hid hC
    have HN := hid hn
    have hl := hC.len
    have HIH := hid ih
    have c0 := hZ.cs
    have f0 := hZ.fr
    have HZ := hid hZ
    clear hC ih hZ
    have e1 : IntKind.wrap .i64 ((s : Int) + n) = (s : Int) + n := by rw [IntKind.wrap_i64]; omega
    by_cases hsn : (s : Int) + n ≤ 257
    · have hZ1 := HZ.out.set (s + n)
      rw [Int.natCast_add] at hZ1
      go_enter Tryz.func197, Tryz.ntmps197
      go_wp2_with fail
      generalize w.setCell ⟨sb, 0, none⟩ (.int .i64 ((s : Int) + (n : Int))) = w1 at *
      have HZ1 := hid hZ1
      clear hZ1 e1 c0 f0 HZ
      go_loopw [13] (fun q wr => ∃ k : Nat, q = .int .i64 k ∧ k ≤ l.length ∧ Sz w0 wr sb cb (min (s + n + (totL (l.take k) - k)) 257)) (fun q _ => (n - (intOf q)).toNat)
      case atStart => exact ⟨0, rfl, by omega, by have := HZ1.out; rw [show min (s + n + (totL (l.take 0) - 0)) 257 = s + n by simp [totL]; omega]; exact this⟩
      case round =>
        obtain ⟨k, rfl, hk, hZk⟩ := hrel
        obtain ⟨m, hm⟩ : ∃ m, min (s + n + (totL (l.take k) - k)) 257 = m := ⟨_, rfl⟩
        rw [hm] at hZk
        have hm2 : m ≤ 257 := by omega
        have hkt : k ≤ totL (l.take k) := by have := totL_len (l.take k); rw [List.length_take] at this; omega
        have htl := totL_drop l k
        by_cases hlt : k < l.length
        · obtain ⟨d', b, o, hd, rfl, hat⟩ := HC.out.at_ (by omega)
          obtain rfl : d' = d := by omega
          obtain ⟨ba, bc, hcl, hbx⟩ := hat k hlt
          have hcl2 := hcl.keep0 hZk.ext
          have x0 := hcl2.c0
          have x1 := hcl2.c1
          have x2 := hcl2.c2
          have x3 := hcl2.c3
          have ht := totL_take hlt
          have hkn : (k : Int) < n := by omega
          have hkn2 : k < n := by omega
          have hZ2 := hZk.alloc (.cells #[.int .u64 (cAt l k).n, .string (cAt l k).s, .int .i64 (cAt l k).t, .slice ba (cAt l k).box.length bc] 89)
          have y0 := hZ2.cs
          have y1 := hZ2.cc
          by_cases hmc : m = 257
          · have e1 : Hid (min (s + totL l) 257 = 257) := by show _ = _; omega
            have e2 : (256 : Int) < (m : Int) := by omega
            have HZ2 := hid hZ2
            clear hat hcl hcl2 hbx ht hm hlt hZ2 hZk htl
            go_wp2_with fail
            refine bodyPost_ret (results_none rfl _ _ _) rfl ?_
            exact ⟨rfl, by rw [e1.out, ← hmc]; exact HZ2.out⟩
          · have e2 : ¬ ((256 : Int) < (m : Int)) := by omega
            have K := HIH.out ba (cAt l k).box _ bc m sb cb w0 _ hbx rfl (by omega) hZ2
            have e4 : Hid (min (m + totL (cAt l k).box) 257 = min (s + n + (totL (l.take (k + 1)) - (k + 1))) 257) := by show _ = _; omega
            clear hat hcl hcl2 hbx ht hm hZ2 hZk htl
            go_wp2_with (go_at_call 197; refine K.mono ?_; rintro e w3 ⟨rfl, hZ3⟩)
            go_roundw
            case rel => exact ⟨k + 1, by go_num, by omega, by rw [← e4.out]; exact hZ3⟩
            case measure => simp [intOf]; omega
        · obtain rfl : k = l.length := by omega
          have hkn : ¬ ((l.length : Int) < n) := by have := HN.out; omega
          have e1 : Hid (min (s + totL l) 257 = m) := by show _ = _; rw [List.take_length] at *; omega
          have HZk := hid hZk
          clear hm hlt hZk htl hkt
          go_wp2_with fail
          go_end0
          exact ⟨rfl, by rw [e1.out]; exact HZk.out⟩
    · have hZ1 : Sz w0 (w.setCell ⟨sb, 0, none⟩ (.int .i64 257)) sb cb 257 := HZ.out.set 257
      go_enter Tryz.func197, Tryz.ntmps197
      go_wp2_with fail
      generalize w.setCell ⟨sb, 0, none⟩ (.int .i64 257) = w1 at *
      have HZ1 := hid hZ1
      clear hZ1 e1 c0 f0 HZ
      go_loopw [13] (fun q wr => ∃ k : Nat, q = .int .i64 k ∧ k ≤ l.length ∧ Sz w0 wr sb cb (min (s + n + (totL (l.take k) - k)) 257)) (fun q _ => (n - (intOf q)).toNat)
      case atStart => exact ⟨0, rfl, by omega, by have := HZ1.out; rw [show min (s + n + (totL (l.take 0) - 0)) 257 = 257 by simp [totL]; omega]; exact this⟩
      case round =>
        obtain ⟨k, rfl, hk, hZk⟩ := hrel
        obtain ⟨m, hm⟩ : ∃ m, min (s + n + (totL (l.take k) - k)) 257 = m := ⟨_, rfl⟩
        rw [hm] at hZk
        have hm2 : m ≤ 257 := by omega
        have hkt : k ≤ totL (l.take k) := by have := totL_len (l.take k); rw [List.length_take] at this; omega
        have htl := totL_drop l k
        by_cases hlt : k < l.length
        · obtain ⟨d', b, o, hd, rfl, hat⟩ := HC.out.at_ (by omega)
          obtain rfl : d' = d := by omega
          obtain ⟨ba, bc, hcl, hbx⟩ := hat k hlt
          have hcl2 := hcl.keep0 hZk.ext
          have x0 := hcl2.c0
          have x1 := hcl2.c1
          have x2 := hcl2.c2
          have x3 := hcl2.c3
          have ht := totL_take hlt
          have hkn : (k : Int) < n := by omega
          have hkn2 : k < n := by omega
          have hZ2 := hZk.alloc (.cells #[.int .u64 (cAt l k).n, .string (cAt l k).s, .int .i64 (cAt l k).t, .slice ba (cAt l k).box.length bc] 89)
          have y0 := hZ2.cs
          have y1 := hZ2.cc
          by_cases hmc : m = 257
          · have e1 : Hid (min (s + totL l) 257 = 257) := by show _ = _; omega
            have e2 : (256 : Int) < (m : Int) := by omega
            have HZ2 := hid hZ2
            clear hat hcl hcl2 hbx ht hm hlt hZ2 hZk htl
            go_wp2_with fail
            refine bodyPost_ret (results_none rfl _ _ _) rfl ?_
            exact ⟨rfl, by rw [e1.out, ← hmc]; exact HZ2.out⟩
          · have e2 : ¬ ((256 : Int) < (m : Int)) := by omega
            have K := HIH.out ba (cAt l k).box _ bc m sb cb w0 _ hbx rfl (by omega) hZ2
            have e4 : Hid (min (m + totL (cAt l k).box) 257 = min (s + n + (totL (l.take (k + 1)) - (k + 1))) 257) := by show _ = _; omega
            clear hat hcl hcl2 hbx ht hm hZ2 hZk htl
            go_wp2_with (go_at_call 197; refine K.mono ?_; rintro e w3 ⟨rfl, hZ3⟩)
            go_roundw
            case rel => exact ⟨k + 1, by go_num, by omega, by rw [← e4.out]; exact hZ3⟩
            case measure => simp [intOf]; omega
        · obtain rfl : k = l.length := by omega
          have hkn : ¬ ((l.length : Int) < n) := by have := HN.out; omega
          have e1 : Hid (min (s + totL l) 257 = m) := by show _ = _; rw [List.take_length] at *; omega
          have HZk := hid hZk
          clear hm hlt hZk htl hkt
          go_wp2_with fail
          go_end0
          exact ⟨rfl, by rw [e1.out]; exact HZk.out⟩

set_option maxRecDepth 100000 in
theorem psize_any (d : Nat) (a : Option Addr) (l : List Cl) (n c : Nat) (w : World) (hC : Cs d w a l) (hn : l.length = n) :
    Calls Tryz.prog 169 #[.slice a n c] w (SayPost w (.int .i64 (siz l))) := by
  have hZ : Sz w ((w.alloc (.cells #[.int .i64 0] 3)).alloc (.cells #[.func (.func 197) #[] #[.pointer (some ⟨w.heap.size, 0, none⟩), .pointer (some ⟨w.heap.size + 1, 0, none⟩)]] 258)) w.heap.size (w.heap.size + 1) 0 :=
    ⟨(Ext.alloc [] _ _).trans (Ext.alloc [] _ _), heap_alloc2_old _ _ _, heap_alloc2_new _ _ _, Nat.le_refl _, by omega⟩
  have K := count1_any d a l n c 0 _ _ w _ hC hn (by omega) hZ
  rw [Nat.zero_add] at K
  clear hZ
  go_enter Tryz.func169, Tryz.ntmps169
  go_wp2_with (go_at_call 197; refine K.mono ?_; rintro e w1 ⟨rfl, hZ1⟩; have c0 := hZ1.cs)
  go_ret
  exact ⟨rfl, hZ1.ext⟩

end Go.Proofs.YtbpjmcjjambdkaaGreatDoor.Ty

/-
  Which values are sound, and the program's test of it; no statement is proved here.
-/
namespace Go.Proofs.YtbpjmcjjambdkaaGreatDoor.Ty
open Go.RowKit

/-- A sound list of cells of these kinds, with boxes of at most this depth. -/
def Okv (ts : List Ty) : Nat → List Int → List Cl → Prop
  | 0, ks, l => l.length = ks.length
  | d + 1, ks, l => l.length = ks.length ∧ ∀ i, i < l.length → Fits (ks.getD i 0) (cAt l i).n (cAt l i).s (cAt l i).t (cAt l i).box.length ∧ ((cAt l i).t ≠ 0 → Boxable ts (cAt l i).t ∧ Okv ts d (kinds ts ((cAt l i).t - 1)) (cAt l i).box)

theorem test_yes {P : Program} {f : FuncId} {args : Array Value} {w : World} {p : Prop} (h : Calls P f args w (TestPost w p)) (hp : p) : Calls P f args w (SayPost w (.bool true)) :=
  h.mono (by rintro e w' ⟨r, rfl, hE, h1, h2⟩; exact ⟨by rw [h2 hp], hE⟩)
theorem test_no {P : Program} {f : FuncId} {args : Array Value} {w : World} {p : Prop} (h : Calls P f args w (TestPost w p)) (hp : ¬ p) : Calls P f args w (SayPost w (.bool false)) :=
  h.mono (by
    rintro e w' ⟨r, rfl, hE, h1, h2⟩
    cases r
    · exact ⟨rfl, hE⟩
    · exact absurd (h1 rfl) hp)

theorem mk16 (w : World) : (Instr.makeSlice 29 (.int .i64 0) (.int .i64 16)).run Tryz.prog w = .ok (.slice (some ⟨w.heap.size, 0, none⟩) 0 16) (w.alloc (.cells (madeCells #[.int .i64 0] 16) 3)) := by
  obtain ⟨i, hi, hz, hs, hb⟩ := info_parts info3
  have := run_make (P := Tryz.prog) w 29 3 i _ Tryz.underlying29 hi hz .i64 .i64 0 16 (by omega) (by omega) (by rw [hb]; omega) (by omega)
  rw [hs] at this
  simpa [Value.cells] using this
theorem own16 (w : World) : (w.alloc (.cells (madeCells #[.int .i64 0] 16) 3)).ownsRow w.heap.size 3 1 (.slice (some ⟨w.heap.size, 0, none⟩) 0 16) 0 ([] : List Value) :=
  ⟨by simp, .inr ⟨w.heap.size, 16, _, rfl, Nat.le_refl _, heap_alloc_new _ _, by omega, by unfold maxLen; omega, by simp [size_madeCells], by simp⟩⟩

def wfn (tb wb : Nat) : Value := .func (.func 170) #[] #[.pointer (some ⟨tb, 0, none⟩), .pointer (some ⟨wb, 0, none⟩)]

set_option maxRecDepth 100000 in
set_option maxHeartbeats 4000000 in
theorem walk_any (ts : List Ty) (ta : Option Addr) (tn tc tb wb : Nat) (htn : ts.length = tn) (hS : Sound ts) : ∀ (d t : Nat) (a : Option Addr) (l : List Cl) (n c : Nat) (w : World), t < tn → Cs d w a l → l.length = n → Tab w ta ts →
    w.cell? ⟨tb, 0, none⟩ = some (.slice ta tn tc) → w.cell? ⟨wb, 0, none⟩ = some (wfn tb wb) →
    Calls Tryz.prog 170 #[.int .i64 t, .slice a n c, .pointer (some ⟨tb, 0, none⟩), .pointer (some ⟨wb, 0, none⟩)] w (TestPost w (Okv ts d (kinds ts t) l)) := by
  intro d
  induction d with
  | zero =>
    intro t a l n c w ht hC hn hT hct hcw
    have hkl := kinds_len hS.2.1 (t + 1) t (by omega) (by omega) (by omega)
    have hkw := (sound_fit hS (i := t) (by omega)).2
    have hKL : (kinds ts t).length ≤ 16 := by omega
    have K1 := fun u (hu : Ext [] w u) => appendKinds_any ts ta tn tc htn hS.2.1 (t + 1) t (by omega) ht u (u.alloc (.cells (madeCells #[.int .i64 0] 16) 3)) _ 0 [] (hT.keep0 hu) (Ext.alloc _ _ _) (by simpa using own16 u) (by omega)
    have hmk := mk16
    obtain rfl : l = [] := hC
    obtain rfl : n = 0 := by simpa using hn.symm
    have hw1 := (sound_fit hS (i := t) (by omega)).1.w0
    have hK1 : 1 ≤ (kinds ts t).length := by omega
    clear hT
    go_enter Tryz.func170, Tryz.ntmps170
    go_wp2_with fail
    go_region_held3 (fun w' => w'.cell? ⟨tb, 0, none⟩ = some (.slice ta tn tc)) (first | exact hE2.cell ((Ext.drew [] _).cell hct (by simp)) (by simp) | go_keep)
      (first | (go_at_call 171; refine (K1 _ (Ext.drew [] _)).mono ?_; rintro e w2 ⟨kv, rfl, hO2, hE2, _, _⟩))
    rw [Nat.zero_add, List.nil_append] at hO2
    obtain ⟨ka, kc, rfl, hkc⟩ := own_slice hO2
    have HE2 := hid ((Ext.drew [] w).trans hE2)
    clear hO2 hE2 K1 hkl hkw hct hcw hw1
    generalize kinds ts t = ks at *
    have h1 : ((0 : Int) == (ks.length : Int)) = false := by simp; omega
    have h2 : ¬ ((0 : Int) = (ks.length : Int)) := by omega
    have HN2 : Hid (¬ Okv ts 0 ks []) := fun h => by simp only [Okv, List.length_nil] at h; omega
    go_wp2_with fail
    go_ret
    exact test_false HN2.out HE2.out
  | succ d ih =>
    intro t a l n c w ht hC hn hT hct hcw
    have hkl := kinds_len hS.2.1 (t + 1) t (by omega) (by omega) (by omega)
    have hkw := (sound_fit hS (i := t) (by omega)).2
    have hKL : (kinds ts t).length ≤ 16 := by omega
    have K1 := fun u (hu : Ext [] w u) => appendKinds_any ts ta tn tc htn hS.2.1 (t + 1) t (by omega) ht u (u.alloc (.cells (madeCells #[.int .i64 0] 16) 3)) _ 0 [] (hT.keep0 hu) (Ext.alloc _ _ _) (by simpa using own16 u) (by omega)
    have hmk := mk16
    have HC := hid hC
    have HT := hid hT
    have HIH := hid ih
    have HCW := hid hcw
    have HCT := hid hct
    have hl := hC.len
    clear hC hT ih
    go_enter Tryz.func170, Tryz.ntmps170
    go_wp2_with fail
    go_region_held3 (fun w' => w'.cell? ⟨tb, 0, none⟩ = some (.slice ta tn tc)) (first | exact hE2.cell ((Ext.drew [] _).cell hct (by simp)) (by simp) | go_keep)
      (first | (go_at_call 171; refine (K1 _ (Ext.drew [] _)).mono ?_; rintro e w2 ⟨kv, rfl, hO2, hE2, _, _⟩))
    rw [Nat.zero_add, List.nil_append] at hO2
    obtain ⟨ka, kc, rfl, hkc⟩ := own_slice hO2
    have HKS := hid (own_vs hO2)
    have HLF := hid (kinds_leaf hS.2.1 (t + 1) t (by omega) (by omega) (by omega))
    have HE2 := hid ((Ext.drew [] w).trans hE2)
    clear hO2 hE2 K1 hkl hkw hct hcw
    generalize kinds ts t = ks at *
    by_cases hnk : n = ks.length
    · subst hnk
      go_wp2_with fail
      go_loopw [21] (fun q wr => ∃ k : Nat, q = .int .i64 k ∧ k ≤ ks.length ∧ Ext [] w2 wr ∧ ∀ i, i < k → Fits (ks.getD i 0) (cAt l i).n (cAt l i).s (cAt l i).t (cAt l i).box.length ∧ ((cAt l i).t ≠ 0 → Boxable ts (cAt l i).t ∧ Okv ts d (kinds ts ((cAt l i).t - 1)) (cAt l i).box)) (fun q _ => (ks.length - (intOf q)).toNat)
      case atStart => exact ⟨0, rfl, by omega, Ext.refl _ _, fun i hi => by omega⟩
      case round =>
        obtain ⟨k, rfl, hk, hEr, hok⟩ := hrel
        have HER := hid (HE2.out.trans hEr)
        have HE20 := hid hEr
        have HOK := hid hok
        have hKr := Vs.keep0 HKS.out hEr
        clear hEr hok
        by_cases hlt : k < ks.length
        · obtain ⟨d1, b, o, hd, rfl, hat⟩ := (HC.out.keep0 HER.out).at_ (by omega)
          obtain rfl : d1 = d := by omega
          obtain ⟨ba, bc, hcl, hbx⟩ := hat k (by omega)
          obtain ⟨kb, ko, rfl, hkcs⟩ := Is.at_ (xs := ks) hKr (by intro e; rw [e] at hlt; simp at hlt)
          have hkk := hkcs k (by omega)
          have hlf := HLF.out (ks.getD k 0) (by rw [show ks.getD k 0 = ks[k]'(by omega) by simp [show k < ks.length by omega]]; exact List.getElem_mem _)
          have x0 := hcl.c0
          have x1 := hcl.c1
          have x2 := hcl.c2
          have x3 := hcl.c3
          have ht0 := hcl.t0
          have hkn : (k : Int) < ks.length := by omega
          have hE1 := Ext.alloc [] wr (.cells #[.int .u64 (cAt l k).n, .string (cAt l k).s, .int .i64 (cAt l k).t, .slice ba (cAt l k).box.length bc] 89)
          have hb1 := heap_alloc_new wr (.cells #[.int .u64 (cAt l k).n, .string (cAt l k).s, .int .i64 (cAt l k).t, .slice ba (cAt l k).box.length bc] 89)
          have z0 : (wr.alloc (.cells #[.int .u64 (cAt l k).n, .string (cAt l k).s, .int .i64 (cAt l k).t, .slice ba (cAt l k).box.length bc] 89)).cell? ⟨wr.heap.size, 0, none⟩ = some (.int .u64 (cAt l k).n) := by rw [cell_of_row _ _ _ _ _ _ hb1]; rfl
          have z1 : (wr.alloc (.cells #[.int .u64 (cAt l k).n, .string (cAt l k).s, .int .i64 (cAt l k).t, .slice ba (cAt l k).box.length bc] 89)).cell? ⟨wr.heap.size, 1, none⟩ = some (.string (cAt l k).s) := by rw [cell_of_row _ _ _ _ _ _ hb1]; rfl
          have z2 : (wr.alloc (.cells #[.int .u64 (cAt l k).n, .string (cAt l k).s, .int .i64 (cAt l k).t, .slice ba (cAt l k).box.length bc] 89)).cell? ⟨wr.heap.size, 2, none⟩ = some (.int .i64 (cAt l k).t) := by rw [cell_of_row _ _ _ _ _ _ hb1]; rfl
          have z3 : (wr.alloc (.cells #[.int .u64 (cAt l k).n, .string (cAt l k).s, .int .i64 (cAt l k).t, .slice ba (cAt l k).box.length bc] 89)).cell? ⟨wr.heap.size, 3, none⟩ = some (.slice ba (cAt l k).box.length bc) := by rw [cell_of_row _ _ _ _ _ _ hb1]; rfl
          have zk := hE1.cell hkk (by simp)
          have HEW := hid (HER.out.trans hE1)
          have HEV := hid (HE20.out.trans hE1)
          have hbx1 := hbx.keep0 hE1
          clear hat hcl hbx hkcs hkk hE1 hb1 hd hKr
          go_upto_region 7 with fail
          generalize wr.alloc (.cells #[.int .u64 (cAt l k).n, .string (cAt l k).s, .int .i64 (cAt l k).t, .slice ba (cAt l k).box.length bc] 89) = W1 at *
          clear x0 x1 x2 x3
          have KF := fits_any (ks.getD k 0) (cAt l k).n (cAt l k).s (cAt l k).t ba (cAt l k).box.length bc W1.drew hlf
          have HOk : Hid (Fits (ks.getD k 0) (cAt l k).n (cAt l k).s (cAt l k).t (cAt l k).box.length ∧ ((cAt l k).t ≠ 0 → Boxable ts (cAt l k).t ∧ Okv ts d1 (kinds ts ((cAt l k).t - 1)) (cAt l k).box) → ∀ i, i < k + 1 → Fits (ks.getD i 0) (cAt l i).n (cAt l i).s (cAt l i).t (cAt l i).box.length ∧ ((cAt l i).t ≠ 0 → Boxable ts (cAt l i).t ∧ Okv ts d1 (kinds ts ((cAt l i).t - 1)) (cAt l i).box)) := fun h i hi => by
            rcases (by omega : i < k ∨ i = k) with h' | rfl
            · exact HOK.out i h'
            · exact h
          have HNo : Hid (¬ (Fits (ks.getD k 0) (cAt l k).n (cAt l k).s (cAt l k).t (cAt l k).box.length ∧ ((cAt l k).t ≠ 0 → Boxable ts (cAt l k).t ∧ Okv ts d1 (kinds ts ((cAt l k).t - 1)) (cAt l k).box)) → ¬ Okv ts (d1 + 1) ks l) := fun h hO => h (hO.2 k (by omega))
          have KI := fun q => HIH.out q ba (cAt l k).box (cAt l k).box.length bc
          clear HOK
          generalize (cAt l k).box = bx at *
          generalize hbl : bx.length = bl at *
          generalize (cAt l k).n = cn at *
          generalize (cAt l k).s = cs at *
          generalize (cAt l k).t = ct at *
          generalize ks.getD k 0 = kk at *
          by_cases hf : Fits kk cn cs ct bl
          · have KF2 := test_yes KF hf
            clear KF hlf
            go_region_held3 (fun w' => w'.cell? ⟨kb, ko + k, none⟩ = some (.int .i64 kk) ∧ w'.cell? ⟨wr.heap.size, 0, none⟩ = some (.int .u64 cn) ∧ w'.cell? ⟨wr.heap.size, 1, none⟩ = some (.string cs) ∧ w'.cell? ⟨wr.heap.size, 2, none⟩ = some (.int .i64 ct) ∧ w'.cell? ⟨wr.heap.size, 3, none⟩ = some (.slice ba bl bc))
              (first | exact ⟨hE4.cell ((Ext.drew [] _).cell zk (by simp)) (by simp), hE4.cell ((Ext.drew [] _).cell z0 (by simp)) (by simp), hE4.cell ((Ext.drew [] _).cell z1 (by simp)) (by simp), hE4.cell ((Ext.drew [] _).cell z2 (by simp)) (by simp), hE4.cell ((Ext.drew [] _).cell z3 (by simp)) (by simp)⟩ | go_keep)
              (first | (go_at_call 172; refine KF2.mono ?_; rintro e w4 ⟨rfl, hE4⟩))
            have HE4 := hid ((HEW.out.trans (Ext.drew [] W1)).trans hE4)
            have HE5 := hid ((HEV.out.trans (Ext.drew [] W1)).trans hE4)
            have y2 := hE4.cell ((Ext.drew [] W1).cell z2 (by simp)) (by simp)
            have y3 := hE4.cell ((Ext.drew [] W1).cell z3 (by simp)) (by simp)
            have hbx4 := (hbx1.keep0 (Ext.drew [] W1)).keep0 hE4
            have yt := HE4.out.cell HCT.out (by simp)
            have yw := HE4.out.cell HCW.out (by simp)
            have hT4 := HT.out.keep0 HE4.out
            clear hE4 z0 z1 z2 z3 zk hbx1
            by_cases h0 : ct = 0
            · subst h0
              go_wp2_with fail
              go_roundw
              case rel => exact ⟨k + 1, by go_num, by omega, HE5.out, HOk.out ⟨hf, fun h => absurd rfl h⟩⟩
              case measure => simp [intOf]; omega
            · have hc0 : (ct == 0) = false := by simpa using h0
              have hc1 : (ct != 0) = true := by simpa using h0
              have KB := boxable_any ta ts tn tc ct w4 hT4 htn
              by_cases hb : Boxable ts ct
              · obtain ⟨q, hq⟩ : ∃ q : Nat, ct = (q : Int) + 1 := ⟨(ct - 1).toNat, by have := hb.1; omega⟩
                have hqn : q < tn := by have := hb.2.1; omega
                have e1 : IntKind.wrap .i64 (ct - 1) = q := by rw [IntKind.wrap_i64]; omega
                have KB2 := test_yes KB hb
                have KW := fun u (hu : Ext [] w4 u) => KI q u hqn (hbx4.keep0 hu) trivial (hT4.keep0 hu) (hu.cell yt (by simp)) (hu.cell yw (by simp))
                have HCT2 := hid yt
                have HCW2 := hid yw
                rw [show ct - 1 = (q : Int) by omega] at HOk HNo
                have Hb := hid hb
                have Hf := hid hf
                have Hq := hid hq
                clear KB hb hf hq hT4 hbx4 h0 KI
                unfold wfn at yw
                by_cases ho : Okv ts d1 (kinds ts q) bx
                · have KW2 := fun u hu => test_yes (KW u hu) ho
                  have HO := hid (HOk.out ⟨Hf.out, fun _ => ⟨Hb.out, ho⟩⟩)
                  clear KW ho
                  go_wp2_with (first | (go_at_call 173; refine KB2.mono ?_; rintro e w5 ⟨rfl, hE5⟩; have v2 := hE5.cell y2 (by simp); have v3 := hE5.cell y3 (by simp); have vw := hE5.cell yw (by simp)) | (go_at_call 170; refine (KW2 _ hE5).mono ?_; rintro e w6 ⟨rfl, hE6⟩))
                  go_roundw
                  case rel => exact ⟨k + 1, by go_num, by omega, (HE5.out.trans hE5).trans hE6, HO.out⟩
                  case measure => simp [intOf]; omega
                · have KW2 := fun u hu => test_no (KW u hu) ho
                  have HN2 := hid (HNo.out (fun h => ho (h.2 (by have := Hq.out; omega)).2))
                  clear KW ho
                  go_wp2_with (first | (go_at_call 173; refine KB2.mono ?_; rintro e w5 ⟨rfl, hE5⟩; have v2 := hE5.cell y2 (by simp); have v3 := hE5.cell y3 (by simp); have vw := hE5.cell yw (by simp)) | (go_at_call 170; refine (KW2 _ hE5).mono ?_; rintro e w6 ⟨rfl, hE6⟩))
                  go_ret
                  exact test_false HN2.out ((HE4.out.trans hE5).trans hE6)
              · have KB2 := test_no KB hb
                have HN2 := hid (HNo.out (fun h => hb (h.2 h0).1))
                clear KB hb hf hbx4 hT4 h0
                go_wp2_with (go_at_call 173; refine KB2.mono ?_; rintro e w5 ⟨rfl, hE5⟩)
                go_ret
                exact test_false HN2.out (HE4.out.trans hE5)
          · have KF2 := test_no KF hf
            clear KF hlf
            go_region_held3 (fun w' => w'.cell? ⟨kb, ko + k, none⟩ = some (.int .i64 kk) ∧ w'.cell? ⟨wr.heap.size, 0, none⟩ = some (.int .u64 cn) ∧ w'.cell? ⟨wr.heap.size, 1, none⟩ = some (.string cs) ∧ w'.cell? ⟨wr.heap.size, 2, none⟩ = some (.int .i64 ct) ∧ w'.cell? ⟨wr.heap.size, 3, none⟩ = some (.slice ba bl bc))
              (first | exact ⟨hE4.cell ((Ext.drew [] _).cell zk (by simp)) (by simp), hE4.cell ((Ext.drew [] _).cell z0 (by simp)) (by simp), hE4.cell ((Ext.drew [] _).cell z1 (by simp)) (by simp), hE4.cell ((Ext.drew [] _).cell z2 (by simp)) (by simp), hE4.cell ((Ext.drew [] _).cell z3 (by simp)) (by simp)⟩ | go_keep)
              (first | (go_at_call 172; refine KF2.mono ?_; rintro e w4 ⟨rfl, hE4⟩))
            have HE4 := hid ((HEW.out.trans (Ext.drew [] W1)).trans hE4)
            have HN2 := hid (HNo.out (fun h => hf h.1))
            clear hE4
            go_wp2_with fail
            go_ret
            exact test_false HN2.out HE4.out
        · obtain rfl : k = ks.length := by omega
          have hkn : ¬ ((ks.length : Int) < (ks.length : Int)) := by omega
          have HY : Hid (Okv ts (d + 1) ks l) := ⟨hn, fun i hi => HOK.out i (by omega)⟩
          clear hlt hk hKr
          go_wp2_with fail
          go_ret
          exact test_true HY.out HER.out
    · have h1 : ((n : Int) == (ks.length : Int)) = false := by simp; omega
      have HN2 : Hid (¬ Okv ts (d + 1) ks l) := fun h => hnk (by rw [← hn]; exact h.1)
      clear hnk
      go_wp2_with fail
      go_ret
      exact test_false HN2.out HE2.out

set_option maxRecDepth 100000 in
set_option maxHeartbeats 4000000 in
theorem psound_any (ts : List Ty) (ta : Option Addr) (tn tc : Nat) (htn : ts.length = tn) (hS : Sound ts) (d t : Nat) (a : Option Addr) (l : List Cl) (n c : Nat) (w : World) (ht : t < tn) (hC : Cs d w a l) (hn : l.length = n) (hT : Tab w ta ts) :
    Calls Tryz.prog 133 #[.slice ta tn tc, .int .i64 t, .slice a n c] w (TestPost w (siz l ≤ 256 ∧ Okv ts d (kinds ts t) l)) := by
  have hE0 := Ext.alloc [] w (.cells #[.slice ta tn tc] 25)
  have K := psize_any d a l n c _ (hC.keep0 hE0) hn
  have hb0 := heap_alloc_new w (.cells #[.slice ta tn tc] 25)
  have HC := hid hC
  have HT := hid hT
  have HE0 := hid hE0
  have HB0 := hid hb0
  clear hC hT hE0 hb0
  by_cases hz : siz l ≤ 256
  · have e1 : ¬ ((256 : Int) < (siz l : Int)) := by omega
    have Hz := hid hz
    clear hz
    generalize siz l = sl at *
    go_enter Tryz.func133, Tryz.ntmps133
    go_upto_region 3 with (go_at_call 169; refine K.mono ?_; rintro e w1 ⟨rfl, hE1⟩)
    have hb1 := hE1.keep HB0.out (by simp)
    have hE2 := Ext.alloc [] w1 (.cells #[wfn w.heap.size w1.heap.size] 242)
    have hE02 := (HE0.out.trans hE1).trans hE2
    have hct : (w1.alloc (.cells #[wfn w.heap.size w1.heap.size] 242)).cell? ⟨w.heap.size, 0, none⟩ = some (.slice ta tn tc) := by
      rw [cell_of_row _ _ _ _ _ _ (hE2.keep hb1 (by simp))]; rfl
    have hcw : (w1.alloc (.cells #[wfn w.heap.size w1.heap.size] 242)).cell? ⟨w1.heap.size, 0, none⟩ = some (wfn w.heap.size w1.heap.size) := by
      rw [cell_of_row _ _ _ _ _ _ (heap_alloc_new _ _)]; rfl
    have K2 := walk_any ts ta tn tc w.heap.size w1.heap.size htn hS d t a l n c _ ht (HC.out.keep0 hE02) hn (HT.out.keep0 hE02) hct hcw
    have HE02 := hid hE02
    unfold wfn at K2 HE02
    clear hct hcw hE02 hE2 hb1 hE1 K
    go_wp2_with (go_at_call 170; refine K2.mono ?_; rintro e w3 ⟨r, rfl, hE3, hr⟩)
    go_ret
    exact ⟨r, rfl, HE02.out.trans hE3, hr.trans ⟨fun h => ⟨Hz.out, h⟩, fun h => h.2⟩⟩
  · have e1 : (256 : Int) < (siz l : Int) := by omega
    have HN : Hid (¬ (siz l ≤ 256 ∧ Okv ts d (kinds ts t) l)) := fun h => hz h.1
    clear hz
    generalize siz l = sl at *
    go_enter Tryz.func133, Tryz.ntmps133
    go_wp2_with (go_at_call 169; refine K.mono ?_; rintro e w1 ⟨rfl, hE1⟩)
    go_ret
    exact test_false HN.out (HE0.out.trans hE1)

end Go.Proofs.YtbpjmcjjambdkaaGreatDoor.Ty
