/-
  What the program's package equal asks of types: Comparable, compared, appendKinds, kindsOf; no statement is proved here.
-/
import Derived.Test.YtpjcbpgfbhlioaaDoorEqM
namespace Go.Proofs.YtpjcbpgfbhlioaaDoor
open Go.RowKit

theorem comparable_any (a : Option Addr) (ts : List Ty) (n c : Nat) (t : Int) (w : World) (hT : Tab w a ts) (hn : ts.length = n) (hc : n ≤ c) (hG : Gl w) :
    Calls Tryd.prog 55 #[.slice a n c, .int .i64 t] w (SayPost w (.tuple #[.bool (mo ts t).cmp, .int .i64 (bad ts t)])) := by
  have K := measureOf_any a ts n c t w hT hn hc hG
  clear hT hn hG
  generalize mo ts t = m at *
  generalize bad ts t = x at *
  go_enter Tryd.func55, Tryd.ntmps55
  go_wp2_with fail
  refine K.mono ?_
  rintro e w1 ⟨rfl, hE⟩
  have HE := hid hE
  clear hE K
  go_wp2_with fail
  go_ret2
  exact ⟨rfl, HE.out.trans (Ext.alloc _ _ _)⟩
theorem compared_any (a : Option Addr) (ts : List Ty) (n c : Nat) (t : Int) (w : World) (hT : Tab w a ts) (hn : ts.length = n) (hc : n ≤ c) (hG : Gl w) (hb : bad ts t = 0) :
    Calls Tryd.prog 42 #[.slice a n c, .int .i64 t] w (SayPost w (.bool (cmpT ts t))) := by
  have K := comparable_any a ts n c t w hT hn hc hG
  rw [mo_ok hb] at K
  unfold cmpT
  clear hT hn hG hb
  generalize M ts t = m at *
  generalize bad ts t = x at *
  go_enter Tryd.func42, Tryd.ntmps42
  go_wp2_with fail
  refine K.mono ?_
  rintro e w1 ⟨rfl, hE⟩
  have HE := hid hE
  clear hE K
  go_wp2_with fail
  go_ret
  exact ⟨rfl, HE.out⟩

set_option maxRecDepth 100000 in
set_option maxHeartbeats 4000000 in
theorem ekinds_any (ts : List Ty) (a : Option Addr) (n c : Nat) (hn : ts.length = n) (hS : AllOk ts) : ∀ (N t : Nat), t < N → t < n → ∀ (w0 w : World) (v : Value) (m : Nat) (xs : List Int), Tab w0 a ts → Ext [] w0 w → w.ownsRow w0.heap.size 3 1 v m (xs.map (Value.int .i64)) → m + (kinds ts t).length ≤ 10000 →
    Calls Tryd.prog 56 #[v, .slice a n c, .int .i64 t] w (KPost w0 w v m xs (kinds ts t)) := by
  intro N
  induction N with
  | zero => intro t h; omega
  | succ N ih =>
    intro t htN htn w0 w v m xs hT hE hO hm
    have hT1 := hT.keep0 hE
    obtain ⟨b, o, rfl, hat⟩ := hT1.addr (by omega)
    obtain ⟨fa, fc, hty⟩ := hat t (by omega)
    obtain ⟨b0, o0, hb0, hat0⟩ := hT.addr (by omega)
    cases hb0
    obtain ⟨fa0, fc0, hty0⟩ := hat0 t (by omega)
    have hfa : fa0 = fa ∧ fc0 = fc := by
      have h1 := hE.cell hty0.c4 (by simp)
      rw [hty.c4] at h1
      simp only [Option.some.injEq, Value.slice.injEq, true_and] at h1
      exact ⟨h1.1.symm, h1.2.symm⟩
    obtain ⟨rfl, rfl⟩ := hfa
    have hF := (hS t (by omega)).1
    have hke := kinds_eq hS (t := (t : Int)) (by omega) (by omega)
    have hbel := hF.below
    obtain ⟨c0, c1, c2, c3, c4, hfo⟩ := hty
    have HT := hid hT
    have HE := hid hE
    have HO := hid hO
    have HM := hid hm
    have HIH := hid ih
    have HBL := hid hbel
    have HKE := hid hke
    have HF := hid hF
    have HFl : Hid (∀ u, Ext [] w0 u → Is u fa0 (tyAt ts t).fields) := fun u hu => hty0.f.1.keep0 hu
    have hol := own_lt hO
    have h3 : t < n := htn
    have HA : Hid (Ext [] w (w.alloc (.cells #[.int .i64 (tyAt ts t).kind, .int .i64 (tyAt ts t).elem, .int .i64 (tyAt ts t).key, .int .i64 (tyAt ts t).len, .slice fa0 (tyAt ts t).fields.length fc0] 42))) := Ext.alloc _ _ _
    have hb1 := heap_alloc_new w (.cells #[.int .i64 (tyAt ts t).kind, .int .i64 (tyAt ts t).elem, .int .i64 (tyAt ts t).key, .int .i64 (tyAt ts t).len, .slice fa0 (tyAt ts t).fields.length fc0] 42)
    have z0 : (w.alloc (.cells #[.int .i64 (tyAt ts t).kind, .int .i64 (tyAt ts t).elem, .int .i64 (tyAt ts t).key, .int .i64 (tyAt ts t).len, .slice fa0 (tyAt ts t).fields.length fc0] 42)).cell? ⟨w.heap.size, 0, none⟩ = some (.int .i64 (tyAt ts t).kind) := by rw [cell_of_row _ _ _ _ _ _ hb1]; rfl
    have z1 : (w.alloc (.cells #[.int .i64 (tyAt ts t).kind, .int .i64 (tyAt ts t).elem, .int .i64 (tyAt ts t).key, .int .i64 (tyAt ts t).len, .slice fa0 (tyAt ts t).fields.length fc0] 42)).cell? ⟨w.heap.size, 1, none⟩ = some (.int .i64 (tyAt ts t).elem) := by rw [cell_of_row _ _ _ _ _ _ hb1]; rfl
    have z3 : (w.alloc (.cells #[.int .i64 (tyAt ts t).kind, .int .i64 (tyAt ts t).elem, .int .i64 (tyAt ts t).key, .int .i64 (tyAt ts t).len, .slice fa0 (tyAt ts t).fields.length fc0] 42)).cell? ⟨w.heap.size, 3, none⟩ = some (.int .i64 (tyAt ts t).len) := by rw [cell_of_row _ _ _ _ _ _ hb1]; rfl
    have z4 : (w.alloc (.cells #[.int .i64 (tyAt ts t).kind, .int .i64 (tyAt ts t).elem, .int .i64 (tyAt ts t).key, .int .i64 (tyAt ts t).len, .slice fa0 (tyAt ts t).fields.length fc0] 42)).cell? ⟨w.heap.size, 4, none⟩ = some (.slice fa0 (tyAt ts t).fields.length fc0) := by rw [cell_of_row _ _ _ _ _ _ hb1]; rfl
    have HZ : Hid (w.heap.size ∉ v.ownBlock.toList) := fun h => by have := (hol w.heap.size (by simpa using h)).2; omega
    clear hT hT1 hE hO hm ih hbel hke hat hat0 hty0 hfo hF hb1 hol
    go_enter Tryd.func56, Tryd.ntmps56
    go_upto_region 2 with fail
    have hO1 := own_keep0 HO.out HA.out
    have HP0 : Hid (KPost w0 (w.alloc (.cells #[.int .i64 (tyAt ts t).kind, .int .i64 (tyAt ts t).elem, .int .i64 (tyAt ts t).key, .int .i64 (tyAt ts t).len, .slice fa0 (tyAt ts t).fields.length fc0] 42)) v m xs [] (.returned v) (w.alloc (.cells #[.int .i64 (tyAt ts t).kind, .int .i64 (tyAt ts t).elem, .int .i64 (tyAt ts t).key, .int .i64 (tyAt ts t).len, .slice fa0 (tyAt ts t).fields.length fc0] 42))) := KPost.nil hO1 (HE.out.trans HA.out)
    clear hO1 c0 c1 c2 c3 c4
    generalize w.alloc (.cells #[.int .i64 (tyAt ts t).kind, .int .i64 (tyAt ts t).elem, .int .i64 (tyAt ts t).key, .int .i64 (tyAt ts t).len, .slice fa0 (tyAt ts t).fields.length fc0] 42) = w1 at *
    generalize w.heap.size = z at *
    by_cases k8 : (tyAt ts t).kind = 8
    · have hps : parts (tyAt ts t) = (tyAt ts t).fields := parts8 k8
      have hfl := HF.out.2.2.2.1 k8
      rw [hps] at HBL HKE
      rw [k8] at z0
      have h0 : (tyAt ts t).fields ≠ [] := by intro e; rw [e] at hfl; simp at hfl
      rw [if_neg h0] at HKE
      clear hps k8 HF
      generalize (tyAt ts t).fields = ps at *
      go_wp2_with fail
      go_loopw [0, 26] (fun u q wr => ∃ k : Nat, q = .int .i64 k ∧ k ≤ ps.length ∧ KPost w0 w1 v m xs ((ps.take k).flatMap (kinds ts)) (.returned u) wr) (fun _ q _ => (ps.length - (intOf q)).toNat)
      case atStart => exact ⟨0, rfl, Nat.zero_le _, by simpa using HP0.out⟩
      case round =>
        obtain ⟨k, rfl, hk, hP⟩ := hrel
        have HPk := hid hP
        obtain ⟨u1, hu1, hOk, hEk, _, _⟩ := hP
        simp only [Ending.returned.injEq] at hu1
        subst hu1
        by_cases hlt : k < ps.length
        · obtain ⟨ib, io, rfl, hcs⟩ := (HFl.out wr hEk).at_ h0
          have hck := hcs k hlt
          have hpk : ps.getD k 0 = ps[k] := by simp [hlt]
          have hbp := HBL.out (ps.getD k 0) (by rw [hpk]; exact List.getElem_mem hlt)
          obtain ⟨p, hp⟩ : ∃ p : Nat, ps.getD k 0 = p := ⟨(ps.getD k 0).toNat, by omega⟩
          have htk : (ps.take (k + 1)).flatMap (kinds ts) = (ps.take k).flatMap (kinds ts) ++ kinds ts p := by
            rw [List.take_succ_eq_append_getElem hlt, List.flatMap_append, ← hpk, hp]; simp
          have hle : ((ps.take (k + 1)).flatMap (kinds ts)).length ≤ (kinds ts t).length := by
            rw [HKE.out]
            conv => rhs; rw [← List.take_append_drop (k + 1) ps, List.flatMap_append, List.length_append]
            omega
          rw [htk, List.length_append] at hle
          have K := HIH.out p (by omega) (by omega) w0 wr _ _ _ HT.out hEk hOk (by have := HM.out; omega)
          have HTK := hid htk
          rw [hp] at hck
          have hkl : (k : Int) < ps.length := by omega
          clear hOk hEk hcs hpk hbp htk hle
          go_wp2_with (first | (go_at_call 56; refine K.mono ?_; clear K; rintro e w2 ⟨v2, rfl, hK2⟩) | fail "no arm")
          go_roundw
          case rel => exact ⟨k + 1, by go_num, by omega, by rw [HTK.out]; exact HPk.out.trans ⟨_, rfl, hK2⟩⟩
          case measure => simp [intOf]; omega
        · have hk2 : k = ps.length := by omega
          subst hk2
          rw [List.take_length] at HPk
          clear hOk hEk
          go_wp2_with fail
          go_ret
          rw [HKE.out]
          exact KPost.after HA.out HPk.out
    · by_cases k9 : (tyAt ts t).kind = 9
      · have hps : parts (tyAt ts t) = List.replicate (tyAt ts t).len.toNat (tyAt ts t).elem := parts9 k9
        have hfl := HF.out.2.2.2.2.1 k9
        rw [hps] at HBL HKE
        rw [k9] at z0
        obtain ⟨l, hl⟩ : ∃ l : Nat, (tyAt ts t).len = l := ⟨(tyAt ts t).len.toNat, by omega⟩
        rw [hl] at HBL HKE z3 hfl
        simp only [Int.toNat_natCast] at HBL HKE
        have h0 : List.replicate l (tyAt ts t).elem ≠ [] := by intro e; have := congrArg List.length e; simp at this; omega
        rw [if_neg h0] at HKE
        clear hps k8 k9 HF hl HFl
        generalize (tyAt ts t).elem = el at *
        have hbe := HBL.out el (List.mem_replicate.2 ⟨by omega, rfl⟩)
        obtain ⟨p, rfl⟩ : ∃ p : Nat, el = p := ⟨el.toNat, by omega⟩
        go_wp2_with fail
        go_loopw [0, 39] (fun u q wr => ∃ k : Nat, q = .int .i64 k ∧ k ≤ l ∧ KPost w0 w1 v m xs ((List.replicate k (p : Int)).flatMap (kinds ts)) (.returned u) wr) (fun _ q _ => (l - (intOf q)).toNat)
        case atStart => exact ⟨0, rfl, Nat.zero_le _, by simpa using HP0.out⟩
        case round =>
          obtain ⟨k, rfl, hk, hP⟩ := hrel
          have HPk := hid hP
          obtain ⟨u1, hu1, hOk, hEk, hXk, _⟩ := hP
          simp only [Ending.returned.injEq] at hu1
          subst hu1
          by_cases hlt : k < l
          · have hck := hXk.cell z1 HZ.out
            have htk : (List.replicate (k + 1) (p : Int)).flatMap (kinds ts) = (List.replicate k (p : Int)).flatMap (kinds ts) ++ kinds ts p := by
              rw [List.replicate_succ', List.flatMap_append]; simp
            have hle : ((List.replicate (k + 1) (p : Int)).flatMap (kinds ts)).length ≤ (kinds ts t).length := by
              rw [HKE.out]
              have : List.replicate l (p : Int) = List.replicate (k + 1) (p : Int) ++ List.replicate (l - (k + 1)) (p : Int) := by rw [List.replicate_append_replicate]; congr 1; omega
              rw [this, List.flatMap_append, List.length_append]
              omega
            rw [htk, List.length_append] at hle
            have K := HIH.out p (by omega) (by omega) w0 wr _ _ _ HT.out hEk hOk (by have := HM.out; omega)
            have HTK := hid htk
            have hkl : (k : Int) < l := by omega
            clear hOk hEk htk hle hXk
            go_wp2_with (first | (go_at_call 56; refine K.mono ?_; clear K; rintro e w2 ⟨v2, rfl, hK2⟩) | fail "no arm")
            go_roundw
            case rel => exact ⟨k + 1, by go_num, by omega, by rw [HTK.out]; exact HPk.out.trans ⟨_, rfl, hK2⟩⟩
            case measure => simp [intOf]; omega
          · have hk2 : k = l := by omega
            subst hk2
            clear hOk hEk hXk
            go_wp2_with fail
            go_ret
            rw [HKE.out]
            exact KPost.after HA.out HPk.out
      · rw [parts0 k8 k9] at HKE
        have HK1 : Hid (kinds ts t = [(tyAt ts t).kind]) := by show _ = _; have := HKE.out; simpa using this
        have e8 : ((tyAt ts t).kind == 8) = false := by simpa using k8
        have e9 : ((tyAt ts t).kind == 9) = false := by simpa using k9
        obtain ⟨u1, hu1, hOk, hEk, _, _⟩ := HP0.out
        simp only [Ending.returned.injEq] at hu1
        subst hu1
        replace hOk : w1.ownsRow w0.heap.size 3 1 v m (xs.map (Value.int .i64)) := by simpa using hOk
        obtain ⟨v3, w3, hr3, hP3⟩ := app1 w0 w1 hEk v m xs hOk (tyAt ts t).kind (by have := HM.out; omega)
        have HP3 := hid hP3
        clear hOk hEk hP3 HF k8 k9 HFl
        generalize (tyAt ts t).kind = kd at *
        go_wp2_with (at_builtin; refine wpList_append_run rfl _ _ 39 rfl _ _ _ rfl rfl hr3 ?_)
        go_ret
        rw [HK1.out]
        exact KPost.after HA.out HP3.out

theorem mk16e (w : World) : (Instr.makeSlice 39 (.int .i64 0) (.int .i64 16)).run Tryd.prog w = .ok (.slice (some ⟨w.heap.size, 0, none⟩) 0 16) (w.alloc (.cells (madeCells #[.int .i64 0] 16) 3)) := mk16 w

/-- The kinds of a type's cells, in a list of its own. -/
theorem kindsOf_any (ts : List Ty) (a : Option Addr) (n c : Nat) (hn : ts.length = n) (hS : Sound ts) (t : Nat) (ht : t < n) (w : World) (hT : Tab w a ts) :
    Calls Tryd.prog 43 #[.slice a n c, .int .i64 t] w (fun e w' => ∃ ka kc, e = .returned (.slice ka (kinds ts t).length kc) ∧ Is w' ka (kinds ts t) ∧ Ext [] w w' ∧ ∀ ad, ka = some ad → w.heap.size ≤ ad.block) := by
  have hkl := kinds_len hS.2.1 (t + 1) t (by omega) (by omega) (by omega)
  have hkw := (sound_fit hS (i := t) (by omega)).2
  have hKL : (kinds ts t).length ≤ 16 := by omega
  have K := ekinds_any ts a n c hn hS.2.1 (t + 1) t (by omega) ht w (w.alloc (.cells (madeCells #[.int .i64 0] 16) 3)) _ 0 [] hT (Ext.alloc _ _ _) (by simpa using own16 w) (by omega)
  have hmk := mk16e w
  clear hT hkl hkw
  generalize kinds ts t = ks at *
  go_enter Tryd.func43, Tryd.ntmps43
  go_wp2_with (first | (go_at_call 56; refine K.mono ?_; clear K; rintro e w2 ⟨kv, rfl, hO2, hE2, _, _⟩) | fail "no arm")
  rw [Nat.zero_add, List.nil_append] at hO2
  obtain ⟨ka, kc, rfl, hkc⟩ := own_slice hO2
  have HKS := hid (own_vs hO2)
  have HKN : Hid (∀ ad, ka = some ad → w.heap.size ≤ ad.block) := fun ad had => (own_lt hO2 ad.block (by rw [had]; rfl)).1
  have HE2 := hid hE2
  clear hO2 hE2
  go_wp2_with fail
  go_ret
  exact ⟨ka, kc, rfl, HKS.out, HE2.out, HKN.out⟩

end Go.Proofs.YtpjcbpgfbhlioaaDoor
