/-
  Snd, AllF, Sou: joined by program; no statement is proved here.
-/
import Derived.Test.YtkknadkcpndnaaaDoorZC
import Derived.Deep.OwnRows
/-
  Which words are a table: the program's own checks; no statement is proved here.
-/
namespace Go.Proofs.YtkknadkcpndnaaaDoor
open Go.RowKit Go.Shelf
open Pr (Gp GpI sq pl)
attribute [local go_sem] Oper.semAt_some run_store_func

/-! ### control words -/
def scB (c : Nat) : Bool := decide ((fl c ||| (mt c 128 ||| mt c 254)) = 255) && (decide (mt c 128 = 0) || decide (mt c 254 = 0))
theorem soundControl_any (c : Nat) (hc : c < 18446744073709551616) (w : World) : Calls Tryd.prog 63 #[.int .u64 (c : Nat)] w fun e w' => e = .returned (.bool (scB c)) ∧ w' = w := by
  have K1 := fun u => full_any c hc u
  have K2 := fun u => open_any c hc u
  have K3 := fun u => empty_any c hc u
  have K4 := fun u => deleted_any c hc u
  have e := bits_or_u64_nat (fl c) (mt c 128 ||| mt c 254) (fl_lt c) (or_lt64 (mt_lt c 128) (mt_lt c 254))
  obtain ⟨r, hr⟩ : ∃ r, scB c = r := ⟨_, rfl⟩
  rw [hr]
  unfold scB at hr
  generalize (mt c 128 ||| mt c 254) = op at *
  generalize hfo : (fl c ||| op) = fo at *
  generalize mt c 128 = me at *
  generalize mt c 254 = md at *
  generalize fl c = f at *
  by_cases h1 : fo = 255
  · have h1' : ((fo : Int) != 255) = false := by simp [h1]
    simp only [h1, decide_true, Bool.true_and] at hr
    by_cases h2 : me = 0
    · have h2' : ((me : Int) == 0) = true := by simp [h2]
      simp only [h2, decide_true, Bool.true_or] at hr
      subst hr
      go_enter Tryd.func63, Tryd.ntmps63
      go_wp2_with (first | (go_at_call 66; refine met (K1 _) ?_) | (go_at_call 72; refine met (K2 _) ?_) | (go_at_call 73; refine met (K3 _) ?_) | (go_at_call 67; refine met (K4 _) ?_))
      go_ret
      exact ⟨rfl, rfl⟩
    · have h2' : ((me : Int) == 0) = false := by simpa using h2
      simp only [h2, decide_false, Bool.false_or] at hr
      by_cases h3 : md = 0
      · have h3' : ((md : Int) == 0) = true := by simp [h3]
        simp only [h3, decide_true] at hr
        subst hr
        go_enter Tryd.func63, Tryd.ntmps63
        go_wp2_with (first | (go_at_call 66; refine met (K1 _) ?_) | (go_at_call 72; refine met (K2 _) ?_) | (go_at_call 73; refine met (K3 _) ?_) | (go_at_call 67; refine met (K4 _) ?_))
        go_ret
        exact ⟨rfl, rfl⟩
      · have h3' : ((md : Int) == 0) = false := by simpa using h3
        simp only [h3, decide_false] at hr
        subst hr
        go_enter Tryd.func63, Tryd.ntmps63
        go_wp2_with (first | (go_at_call 66; refine met (K1 _) ?_) | (go_at_call 72; refine met (K2 _) ?_) | (go_at_call 73; refine met (K3 _) ?_) | (go_at_call 67; refine met (K4 _) ?_))
        go_ret
        exact ⟨rfl, rfl⟩
  · have h1' : ((fo : Int) != 255) = true := by simp; omega
    simp only [h1, decide_false, Bool.false_and] at hr
    subst hr
    go_enter Tryd.func63, Tryd.ntmps63
    go_wp2_with (first | (go_at_call 66; refine met (K1 _) ?_) | (go_at_call 72; refine met (K2 _) ?_) | (go_at_call 73; refine met (K3 _) ?_) | (go_at_call 67; refine met (K4 _) ?_))
    go_ret
    exact ⟨rfl, rfl⟩

/-! ### the slots of a group -/
def slB (T : List Nat) (g i : Nat) : Bool := if (fl (cw T g)).testBit i then decide (byt (cw T g) i = hsw T g i % 128) else decide (hsw T g i = 0) && decide (idw T g i = 0)
def ssB (T : List Nat) (g : Nat) : Bool := (List.range 8).all (slB T g)
theorem bit_int (f i : Nat) (hf : f < 18446744073709551616) : bits BinOp.and IntKind.u64 ((f : Int) / 2 ^ i) 1 = if f.testBit i then 1 else 0 := by
  have e1 : (f : Int) / 2 ^ i = ((f / 2 ^ i : Nat) : Int) := by norm_cast
  have h1 : f / 2 ^ i < 18446744073709551616 := Nat.lt_of_le_of_lt (Nat.div_le_self _ _) hf
  rw [e1, show (1 : Int) = ((1 : Nat) : Int) from rfl, bits_and_u64_nat _ 1 h1 (by omega), Nat.and_one_is_mod, Nat.testBit_eq_decide_div_mod_eq]
  by_cases q : f / 2 ^ i % 2 = 1
  · simp [q]
  · have : f / 2 ^ i % 2 = 0 := by omega
    simp [this]
set_option maxRecDepth 100000 in
set_option maxHeartbeats 1000000 in
theorem soundSlots_any (a : Option Addr) (c : Nat) (T : List Nat) (G g : Nat) (hS : Shp T G) (hg : g < G) (w : World) (hT : Wd w a T) :
    Calls Tryd.prog 64 #[.slice a (3 + 17 * G) c, .int .i64 (g : Nat)] w (SayPost w (.bool (ssB T g))) := by
  have hG := hS.gp.le
  have hlen := hS.len
  obtain ⟨b, o, rfl, hc⟩ := hT.at_ (by rintro rfl; simp at hlen; omega)
  have K1 := fun u => controlAt_any g (by omega) u
  have cC := hc (3 + 17 * g) (by omega)
  rw [show T.getD (3 + 17 * g) 0 = cw T g from rfl] at cC
  have hcw := hS.cw_lt g
  have K2 := fun u => full_any (cw T g) hcw u
  have KH := fun i (hi : i < 8) u => hashAt_any g i (by omega) (by omega) u
  have KI := fun i (hi : i < 8) u => idAt_any g i (by omega) (by omega) u
  have KS := fun i u => split_any (hsw T g i) (hS.hs_lt g i) u
  have KG := fun i (hi : i < 8) u => get_ok (cw T g) i hi u
  have hfl := fl_lt (cw T g)
  have HC := hid hT
  have hne : T ≠ [] := by rintro rfl; simp at hlen; omega
  have HL := hid hlen
  have hss : Hid (ssB T g = (List.range 8).all (slB T g)) := rfl
  have hsl : Hid (∀ i, slB T g i = if (fl (cw T g)).testBit i then decide (byt (cw T g) i = hsw T g i % 128) else decide (hsw T g i = 0) && decide (idw T g i = 0)) := fun _ => rfl
  have HBy := hid (byt_lt (cw T g))
  have HAll : Hid (∀ k, k < 8 → slB T g k = false → ssB T g = false) := fun k hk h => by
    show ssB T g = false
    unfold ssB
    rw [List.all_eq_false]
    exact ⟨k, by simpa using hk, by simp [h]⟩
  have HAllT : Hid ((∀ k, k < 8 → slB T g k = true) → ssB T g = true) := fun h => by
    show ssB T g = true
    unfold ssB
    rw [List.all_eq_true]
    intro k hk
    exact h k (by simpa using hk)
  clear hS hT hlen hc hss
  generalize hcx : cw T g = cx at *
  clear hcx
  go_enter Tryd.func64, Tryd.ntmps64
  go_wp2_with (first | (go_at_call 52; refine met (K1 _) ?_) | (go_at_call 66; refine met (K2 _) ?_))
  clear K1 K2 cC
  go_loopw [21] (fun q wr => ∃ k : Nat, q = .int .i64 k ∧ k ≤ 8 ∧ (∀ j, j < k → slB T g j = true) ∧ Ext [] w wr) (fun q _ => (8 - (intOf q)).toNat)
  case atStart => exact ⟨0, rfl, Nat.zero_le _, fun j hj => absurd hj (by omega), Ext.refl _ _⟩
  case round =>
    obtain ⟨i, rfl, hi8, hall, hE⟩ := hrel
    by_cases hi : i < 8
    · have hii : (i : Int) < 8 := by omega
      obtain ⟨_, _, heq, hc⟩ := (HC.out.keep0 hE).at_ hne
      cases heq
      have cH := hc (3 + 17 * g + 1 + 2 * i) (by rw [HL.out]; omega)
      have cI := hc (3 + 17 * g + 2 + 2 * i) (by rw [HL.out]; omega)
      rw [show T.getD (3 + 17 * g + 1 + 2 * i) 0 = hsw T g i from rfl] at cH
      rw [show T.getD (3 + 17 * g + 2 + 2 * i) 0 = idw T g i from rfl] at cI
      have hbit := bit_int (fl cx) i hfl
      have hb256 := HBy.out i
      have Hsl := hid (hsl.out i)
      have Hall := hid hall
      have HE := hid hE
      have KH' := KH i hi
      have KI' := KI i hi
      have KS' := KS i
      have KG' := KG i hi
      clear hall hE hc KH KI KS KG
      generalize hsw T g i = hv at *
      generalize idw T g i = dv at *
      generalize byt cx i = bv at *
      generalize fl cx = f at *
      cases hf : f.testBit i with
      | false =>
        rw [hf] at hbit
        replace Hsl := hid (show slB T g i = (decide (hv = 0) && decide (dv = 0)) by have := Hsl.out; rw [hf] at this; simpa using this)
        simp only [Bool.false_eq_true, if_false] at hbit
        by_cases h0 : hv = 0
        · have h0' : ((hv : Int) != 0) = false := by simp [h0]
          by_cases d0 : dv = 0
          · have d0' : ((dv : Int) != 0) = false := by simp [d0]
            have HN : Hid (∀ j, j < i + 1 → slB T g j = true) := fun j hj => by
              by_cases e : j = i
              · subst e; rw [Hsl.out, h0, d0]; rfl
              · exact Hall.out j (by omega)
            clear Hsl
            go_wp2_with fail
            go_quiet (first | (go_at_call 77; refine Calls.quiet_of_same (KH' _)) | (go_at_call 42; refine Calls.quiet_of_same (KI' _)))
            go_wp2_with fail
            go_roundw
            case rel => exact ⟨i + 1, by go_num, by omega, HN.out, HE.out.trans (Ext.drewN [] _ _)⟩
            case measure => simp [intOf]; omega
          · have d0' : ((dv : Int) != 0) = true := by simpa using d0
            have HR := hid (HAll.out i hi (by rw [Hsl.out]; simp [d0]))
            clear Hsl
            go_wp2_with fail
            go_quiet (first | (go_at_call 77; refine Calls.quiet_of_same (KH' _)) | (go_at_call 42; refine Calls.quiet_of_same (KI' _)))
            go_wp2
            go_ret
            exact ⟨by rw [HR.out]; rfl, HE.out.trans (Ext.drewN [] _ _)⟩
        · have h0' : ((hv : Int) != 0) = true := by simpa using h0
          have HR := hid (HAll.out i hi (by rw [Hsl.out]; simp [h0]))
          clear Hsl
          go_wp2_with fail
          go_quiet (first | (go_at_call 77; refine Calls.quiet_of_same (KH' _)) | (go_at_call 42; refine Calls.quiet_of_same (KI' _)))
          go_wp2
          go_ret
          exact ⟨by rw [HR.out]; rfl, HE.out.trans (Ext.drewN [] _ _)⟩
      | true =>
        rw [hf] at hbit
        replace Hsl := hid (show slB T g i = decide (bv = hv % 128) by have := Hsl.out; rw [hf] at this; simpa using this)
        simp only [if_true] at hbit
        have hm128 : hv % 128 < 128 := Nat.mod_lt _ (by omega)
        generalize hv % 128 = h2 at *
        by_cases hbh : bv = h2
        · have hbh' : ((bv : Int) != (h2 : Int)) = false := by simp [hbh]
          have HN : Hid (∀ j, j < i + 1 → slB T g j = true) := fun j hj => by
            by_cases e : j = i
            · subst e; rw [Hsl.out, hbh]; simp
            · exact Hall.out j (by omega)
          clear Hsl
          go_wp2_with fail
          go_quiet (first | (go_at_call 77; refine Calls.quiet_of_same (KH' _)) | (go_at_call 42; refine Calls.quiet_of_same (KI' _)))
          go_wp2_with (first | (go_at_call 69; refine met (KS' _) ?_) | (go_at_call 83; refine met (KG' _) ?_))
          go_roundw
          case rel => exact ⟨i + 1, by go_num, by omega, HN.out, HE.out.trans (Ext.drewN [] _ _)⟩
          case measure => simp [intOf]; omega
        · have hbh' : ((bv : Int) != (h2 : Int)) = true := by simp; omega
          have HR := hid (HAll.out i hi (by rw [Hsl.out]; simp [hbh]))
          clear Hsl
          go_wp2_with fail
          go_quiet (first | (go_at_call 77; refine Calls.quiet_of_same (KH' _)) | (go_at_call 42; refine Calls.quiet_of_same (KI' _)))
          go_wp2_with (first | (go_at_call 69; refine met (KS' _) ?_) | (go_at_call 83; refine met (KG' _) ?_))
          go_ret
          exact ⟨by rw [HR.out]; rfl, HE.out.trans (Ext.drewN [] _ _)⟩
    · obtain rfl : i = 8 := by omega
      have HR := hid (HAllT.out hall)
      have HE := hid hE
      clear hall hE
      go_wp2
      go_ret
      exact ⟨by rw [HR.out]; rfl, HE.out⟩
end Go.Proofs.YtkknadkcpndnaaaDoor

/-
  allFound: each entry is found; no statement is proved here.
-/
namespace Go.Proofs.YtkknadkcpndnaaaDoor
open Go.RowKit Go.Shelf
open Pr (Gp GpI sq pl)
attribute [local go_sem] Oper.semAt_some run_store_func

theorem bit_intF (f i : Nat) (hf : f < 18446744073709551616) : bits BinOp.and IntKind.u64 ((f : Int) / 2 ^ i) 1 = if f.testBit i then 1 else 0 := by
  have e1 : (f : Int) / 2 ^ i = ((f / 2 ^ i : Nat) : Int) := by norm_cast
  have h1 : f / 2 ^ i < 18446744073709551616 := Nat.lt_of_le_of_lt (Nat.div_le_self _ _) hf
  rw [e1, show (1 : Int) = ((1 : Nat) : Int) from rfl, bits_and_u64_nat _ 1 h1 (by omega), Nat.and_one_is_mod, Nat.testBit_eq_decide_div_mod_eq]
  by_cases q : f / 2 ^ i % 2 = 1
  · simp [q]
  · have : f / 2 ^ i % 2 = 0 := by omega
    simp [this]
/-- Each entry is found. -/
def Fnd (T : List Nat) (G : Nat) : Prop := ∀ own, own < G → ∀ i, i < 8 → (fl (cw T own)).testBit i = true → ∃ k, k < G ∧ pl (hsw T own i / 128) G k = own ∧ ∀ n, n < k → hasE T (pl (hsw T own i / 128) G n) = false
def bls (T : List Nat) (G k : Nat) : List Value := (List.range G).map fun g => .bool (decide (g < k) && hasE T g)
theorem bls_at (T : List Nat) {G k j : Nat} (h : j < G) : (bls T G k)[j]? = some (.bool (decide (j < k) && hasE T j)) := by simp [bls, h]
/-- The row of truths at g0. -/
def Bw (w : World) (g0 : Nat) (T : List Nat) (G k : Nat) : Prop := w.heap[g0]? = some (.cells (bls T G k).toArray 4 (0, 0))
theorem bls_set (T : List Nat) {G k : Nat} (hk : k < G) : (bls T G k).set k (.bool (hasE T k)) = bls T G (k + 1) := by
  apply List.ext_getElem?
  intro j
  rw [List.getElem?_set]
  by_cases hj : j < G
  · rw [bls_at T hj, bls_at T hj]
    by_cases e : k = j
    · subst e; simp [bls, hk]
    · rw [if_neg e]
      have : decide (j < k) = decide (j < k + 1) := by rw [decide_eq_decide]; omega
      rw [this]
  · have e1 : (bls T G k)[j]? = none := by simp [bls]; omega
    have e2 : (bls T G (k + 1))[j]? = none := by simp [bls]; omega
    rw [e1, e2, if_neg (by omega)]

set_option maxRecDepth 100000 in
set_option maxHeartbeats 2000000 in
theorem allFound_true (a : Option Addr) (c : Nat) (T : List Nat) (G : Nat) (hS : Shp T G) (hF : Fnd T G) (w : World) (hT : Wd w a T) :
    Calls Tryd.prog 68 #[.slice a (3 + 17 * G) c] w (SayPost w (.bool true)) := by
  have hG := hS.gp.le
  have hG0 := hS.gp.pos
  have hlen := hS.len
  have K1 := fun u (hu : Ext [] w u) => groupsOf_any a (3 + 17 * G) c T u (hT.keep0 hu) hlen (by omega) (by rw [hS.g0]; exact hG)
  rw [hS.g0] at K1
  have hmk := run_make_row' (P := Tryd.prog) 125 4 (.bool false) 1 Tryd.underlying125 info4 rfl .i64 .i64 G (by omega) (by omega) w
  have hB0 : Bw (w.alloc (.cells (madeCells #[.bool false] G) 4)) w.heap.size T G 0 := by
    have e : madeCells #[.bool false] G = (bls T G 0).toArray := by
      apply Array.toList_inj.1
      rw [toList_madeCells_one]
      apply List.ext_getElem?
      intro j
      by_cases hj : j < G
      · rw [List.getElem?_replicate, if_pos hj, bls_at T hj]; simp
      · rw [List.getElem?_replicate, if_neg hj]; simp only [bls]; rw [List.getElem?_map, List.getElem?_eq_none (by simp; omega)]; rfl
    unfold Bw
    rw [← e]
    exact heap_alloc_new w _
  have hE0 := Ext.alloc [] w (.cells (madeCells #[.bool false] G) 4)
  obtain ⟨g0, hg0⟩ : ∃ g0, w.heap.size = g0 := ⟨_, rfl⟩
  rw [hg0] at hmk hB0
  obtain ⟨W0, hW0⟩ : ∃ W0, w.alloc (.cells (madeCells #[.bool false] G) 4) = W0 := ⟨_, rfl⟩
  rw [hW0] at hmk hB0 hE0
  have HB0 := hid hB0
  have HE0 := hid hE0
  have HT := hid hT
  have HL := hid hlen
  have HS := hid hS
  have HF := hid hF
  have hne : T ≠ [] := by rintro rfl; simp at hlen; omega
  obtain ⟨b, o, rfl, hcc⟩ := hT.at_ hne
  clear hcc
  have K1w := K1 w (Ext.refl _ _)
  clear hB0 hE0 hT hlen hS hF hW0 K1
  go_enter Tryd.func68, Tryd.ntmps68
  go_wp2_with (first | (go_at_call 62; refine met K1w ?_))
  clear hmk K1w
  go_loopw [19] (fun q wr => ∃ k : Nat, q = .int .i64 k ∧ k ≤ G ∧ Bw wr g0 T G k ∧ Ext [] w wr) (fun q _ => (G - (intOf q)).toNat)
  case atStart => exact ⟨0, rfl, Nat.zero_le _, HB0.out, HE0.out⟩
  case round =>
    clear HB0 HE0
    obtain ⟨k, rfl, hk, hB, hE⟩ := hrel
    by_cases hkG : k < G
    · have hki : (k : Int) < G := by omega
      obtain ⟨_, _, heq, hc⟩ := (HT.out.keep0 hE).at_ hne
      cases heq
      have cC := hc (3 + 17 * k) (by rw [HL.out]; omega)
      rw [show T.getD (3 + 17 * k) 0 = cw T k from rfl] at cC
      have hcw := HS.out.cw_lt k
      have KC := fun u => controlAt_any k (by omega) u
      have KE := fun u => empty_any (cw T k) hcw u
      have cB : wr.cell? ⟨g0, k, none⟩ = some (.bool (decide (k < k) && hasE T k)) := by rw [cell_of_row _ _ _ _ _ _ hB]; rw [List.getElem?_toArray, bls_at T hkG]
      have fB := frozen_of_row wr g0 k _ 4 hB
      have hbe : ((mt (cw T k) 128 : Int) != 0) = hasE T k := by
        unfold hasE
        by_cases q : mt (cw T k) 128 = 0
        · simp [q]
        · have : ((mt (cw T k) 128 : Int) != 0) = true := by simpa using q
          rw [this]; simp [q]
      have HB' : Hid (Bw (wr.setCell ⟨g0, k, none⟩ (.bool (hasE T k))) g0 T G (k + 1)) := by
        show _ = _
        rw [heap_setCell_same wr g0 k _ 4 _ hB]
        rw [← bls_set T hkG]
        simp
      have HE' := hid (hE.on (Ext.setCell [g0] wr ⟨g0, k, none⟩ (.bool (hasE T k)) (by simp)) (by simp; omega))
      generalize (decide (k < k) && hasE T k) = ob at *
      generalize mt (cw T k) 128 = me at *
      generalize cw T k = cx at *
      generalize hasE T k = he at *
      clear hB hE hc
      go_wp2_with (first | (go_at_call 52; refine met (KC _) ?_) | (go_at_call 73; refine met (KE _) ?_))
      go_roundw
      case rel => exact ⟨k + 1, by go_num, by omega, HB'.out, HE'.out⟩
      case measure => simp [intOf]; omega
    · obtain rfl : k = G := by omega
      have HB := hid hB
      have HE := hid hE
      clear hB hE
      go_wp2_with fail
      obtain ⟨V, hV⟩ : ∃ V, V = wr := ⟨_, rfl⟩
      rw [← hV] at HB HE ⊢
      clear hV
      go_loopw [34] (fun q wr => ∃ m : Nat, q = .int .i64 m ∧ m ≤ k ∧ Ext [] V wr) (fun q _ => (k - (intOf q)).toNat)
      case atStart => exact ⟨0, rfl, Nat.zero_le _, Ext.refl _ _⟩
      case round =>
        obtain ⟨m, rfl, hm, hX⟩ := hrel
        by_cases hmk2 : m < k
        · have hmi : (m : Int) < k := by omega
          obtain ⟨_, _, heq, hc⟩ := (HT.out.keep0 (HE.out.trans hX)).at_ hne
          cases heq
          have cC := hc (3 + 17 * m) (by rw [HL.out]; omega)
          rw [show T.getD (3 + 17 * m) 0 = cw T m from rfl] at cC
          have hcw := HS.out.cw_lt m
          have KC := fun u => controlAt_any m (by omega) u
          have KF := fun u => full_any (cw T m) hcw u
          have HFm := hid (HF.out m hmk2)
          have hfl := fl_lt (cw T m)
          generalize fl (cw T m) = f at *
          generalize cw T m = cx at *
          have HX := hid hX
          clear hX hc
          go_wp2_with fail
          go_step3
          go_wp2_with (first | (go_at_call 52; refine met (KC _) ?_) | (go_at_call 66; refine met (KF _) ?_))
          go_step3
          go_wp2_with fail
          clear cC KC KF
          obtain ⟨V2, hV2⟩ : ∃ V2, V2 = wr := ⟨_, rfl⟩
          rw [← hV2] at HX ⊢
          clear hV2
          go_loopw [43] (fun q wr => ∃ i : Nat, q = .int .i64 i ∧ i ≤ 8 ∧ Ext [] V2 wr) (fun q _ => (8 - (intOf q)).toNat)
          case atStart => exact ⟨0, rfl, Nat.zero_le _, Ext.refl _ _⟩
          case round =>
            obtain ⟨i, rfl, hi8, hX2⟩ := hrel
            by_cases hi : i < 8
            · have hii : (i : Int) < 8 := by omega
              have hbit := bit_intF f i hfl
              have HX2 := hid hX2
              cases hf : f.testBit i with
              | false =>
                rw [hf] at hbit
                simp only [Bool.false_eq_true, if_false] at hbit
                clear hX2
                go_wp2_with fail
                go_roundw
                case rel => exact ⟨i + 1, by go_num, by omega, HX2.out⟩
                case measure => simp [intOf]; omega
              | true =>
                rw [hf] at hbit
                simp only [if_true] at hbit
                obtain ⟨n, hn, hpl, hno⟩ := HFm.out i hi hf
                obtain ⟨_, _, heq, hc⟩ := (HT.out.keep0 (HE.out.trans (HX.out.trans hX2))).at_ hne
                cases heq
                have cH := hc (3 + 17 * m + 1 + 2 * i) (by rw [HL.out]; omega)
                rw [show T.getD (3 + 17 * m + 1 + 2 * i) 0 = hsw T m i from rfl] at cH
                have hhs := HS.out.hs_lt m i
                have KH := fun u => hashAt_any m i (by omega) (by omega) u
                have KS := fun u => split_any (hsw T m i) hhs u
                have hgp := HS.out.gp
                have KA := fun j (hj : j < k) u => Pr.at_ok (hsw T m i / 128) k j hgp hj u
                have HPl := hid hpl
                have HNo := hid hno
                have HInj := hid (fun j (hj : j < k) e => Pr.pl_inj (h := hsw T m i / 128) (i := j) (j := n) hgp hj hn e)
                have HLt := hid (fun j => Pr.pl_lt (hsw T m i / 128) hgp.pos j)
                have hm128 : hsw T m i % 128 < 128 := Nat.mod_lt _ (by omega)
                clear hX2 hc hpl hno hgp
                generalize hsw T m i / 128 = h1 at *
                generalize hsw T m i % 128 = h2 at *
                generalize hsw T m i = hv at *
                go_wp2_with (first | (go_at_call 77; refine met (KH _) ?_) | (go_at_call 69; refine met (KS _) ?_))
                clear cH KH KS
                obtain ⟨V3, hV3⟩ : ∃ V3, V3 = wr := ⟨_, rfl⟩
                rw [← hV3] at HX2 ⊢
                clear hV3
                go_loopw [62] (fun q wr => ∃ j : Nat, q = .int .i64 j ∧ j ≤ n ∧ Ext [] V3 wr) (fun q _ => (k - (intOf q)).toNat)
                case atStart => exact ⟨0, rfl, Nat.zero_le _, Ext.refl _ _⟩
                case round =>
                  obtain ⟨j, rfl, hj, hX3⟩ := hrel
                  have hjk : j < k := by omega
                  have hji : (j : Int) < k := by omega
                  have KA' := KA j hjk
                  have hplt := HLt.out j
                  have HX3 := hid hX3
                  by_cases hjn : j = n
                  · subst hjn
                    rw [HPl.out] at KA' hplt
                    clear KA hX3
                    go_wp2_with (first | (go_at_call 80; refine met (KA' _) ?_))
                    go_roundw
                    case rel => exact ⟨i + 1, by go_num, by omega, HX2.out.trans HX3.out⟩
                    case measure => simp [intOf]; omega
                  · have hne2 : pl h1 k j ≠ m := fun e => hjn (HInj.out j hjk (by rw [HPl.out]; exact e))
                    have hno := HNo.out j (by omega)
                    have hB3 : Bw wr g0 T k k := (HX.out.trans (HX2.out.trans hX3)).keep HB.out (by simp)
                    have cB : wr.cell? ⟨g0, pl h1 k j, none⟩ = some (.bool false) := by
                      rw [cell_of_row _ _ _ _ _ _ hB3, List.getElem?_toArray, bls_at T hplt, hno]
                      simp
                    have hneb : ((pl h1 k j : Int) == (m : Int)) = false := by simp; omega
                    clear KA hX3 hno hB3
                    generalize pl h1 k j = p at *
                    go_wp2_with (first | (go_at_call 80; refine met (KA' _) ?_))
                    go_roundw
                    case rel => exact ⟨j + 1, by go_num, by omega, HX3.out⟩
                    case measure => simp [intOf]; omega
            · obtain rfl : i = 8 := by omega
              have HX2 := hid hX2
              clear hX2
              go_wp2_with fail
              apply_assumption
              go_wp2_with fail
              go_roundw
              case rel => exact ⟨m + 1, by go_num, by omega, HX.out.trans HX2.out⟩
              case measure => simp [intOf]; omega
        · obtain rfl : m = k := by omega
          have HX := hid hX
          clear hX
          go_wp2
          go_ret
          exact ⟨rfl, HE.out.trans HX.out⟩
end Go.Proofs.YtkknadkcpndnaaaDoor

/-
  sound: words that are a table are told so; no statement is proved here.
-/
namespace Go.Proofs.YtkknadkcpndnaaaDoor
open Go.RowKit Go.Shelf
open Pr (Gp GpI sq pl)
attribute [local go_sem] Oper.semAt_some run_store_func

def nfl (T : List Nat) : Nat → Nat
  | 0 => 0
  | k + 1 => nfl T k + pc (fl (cw T k))
def nus (T : List Nat) : Nat → Nat
  | 0 => 0
  | k + 1 => nus T k + pc (fl (cw T k) ||| mt (cw T k) 254)
theorem pc_le (x : Nat) : pc x ≤ 8 := by
  have := List.length_filter_le (fun i => x.testBit i) (List.range 8)
  simpa [pc] using this
theorem nfl_le (T : List Nat) : ∀ k, nfl T k ≤ 8 * k
  | 0 => by simp [nfl]
  | k + 1 => by have := nfl_le T k; have := pc_le (fl (cw T k)); rw [nfl]; omega
theorem nus_le (T : List Nat) : ∀ k, nus T k ≤ 8 * k
  | 0 => by simp [nus]
  | k + 1 => by have := nus_le T k; have := pc_le (fl (cw T k) ||| mt (cw T k) 254); rw [nus]; omega
/-- The words are a sound table of G groups. -/
structure Sd (T : List Nat) (G : Nat) : Prop where
  shp : Shp T G
  ctl : ∀ g, g < G → scB (cw T g) = true
  slt : ∀ g, g < G → ssB T g = true
  cnt : T.getD 1 0 = nfl T G
  use : T.getD 2 0 + nus T G = 7 * G
  fnd : Fnd T G

theorem shaped_true (a : Option Addr) (c : Nat) (T : List Nat) (G : Nat) (hS : Shp T G) (w : World) (hT : Wd w a T) :
    Calls Tryd.prog 61 #[.slice a (3 + 17 * G) c] w fun e w' => e = .returned (.bool true) ∧ w' = w := by
  have hG := hS.gp.le
  have hlen := hS.len
  have K1 := groupsOf_any a (3 + 17 * G) c T w hT hlen (by omega) (by rw [hS.g0]; exact hG)
  have K2 := fun u => tallowed_yes G hS.gp u
  have K3 := fun u => wordsOf_any G hG u
  rw [hS.g0] at K1
  obtain ⟨b, o, rfl, hc⟩ := hT.at_ (by rintro rfl; simp at hlen; omega)
  have c0 := hc 0 (by omega)
  rw [Nat.add_zero, hS.g0] at c0
  clear hT hc hlen hS
  go_enter Tryd.func61, Tryd.ntmps61
  go_wp2_with (first | (go_at_call 62; refine met K1 ?_) | (go_at_call 49; refine met (K2 _) ?_) | (go_at_call 50; refine met (K3 _) ?_))
  go_ret
  exact ⟨rfl, rfl⟩

set_option maxRecDepth 100000 in
set_option maxHeartbeats 1000000 in
theorem sound_true (a : Option Addr) (c : Nat) (T : List Nat) (G : Nat) (hS : Sd T G) (w : World) (hT : Wd w a T) :
    Calls Tryd.prog 38 #[.slice a (3 + 17 * G) c] w (SayPost w (.bool true)) := by
  have hG := hS.shp.gp.le
  have hlen := hS.shp.len
  have K0 := shaped_true a c T G hS.shp w hT
  have K1 := fun u (hu : Ext [] w u) => groupsOf_any a (3 + 17 * G) c T u (hT.keep0 hu) hlen (by omega) (by rw [hS.shp.g0]; exact hG)
  rw [hS.shp.g0] at K1
  have K1w := K1 w (Ext.refl _ _)
  have KA := fun u (hu : Ext [] w u) => allFound_true a c T G hS.shp hS.fnd u (hT.keep0 hu)
  have KSS := fun g (hg : g < G) u (hu : Ext [] w u) => soundSlots_any a c T G g hS.shp hg u (hT.keep0 hu)
  have hne : T ≠ [] := by rintro rfl; simp at hlen; omega
  obtain ⟨b, o, rfl, hcc⟩ := hT.at_ hne
  clear hcc
  have HT := hid hT
  have HL := hid hlen
  have HS := hid hS
  have HKS := hid KSS
  have HKA := hid KA
  have HK1 := hid K1
  clear hT hlen hS KSS KA K1
  go_enter Tryd.func38, Tryd.ntmps38
  go_wp2_with (first | (go_at_call 61; refine met K0 ?_) | (go_at_call 62; refine met K1w ?_))
  clear K0 K1w
  go_loopw [3, 4, 13] (fun p q r wr => ∃ k : Nat, r = .int .i64 k ∧ k ≤ G ∧ p = .int .i64 (nfl T k : Nat) ∧ q = .int .i64 (nus T k : Nat) ∧ Ext [] w wr) (fun _ _ q _ => (G - (intOf q)).toNat)
  case atStart => exact ⟨0, rfl, Nat.zero_le _, rfl, rfl, Ext.refl _ _⟩
  case round =>
    obtain ⟨k, rfl, hk, rfl, rfl, hX⟩ := hrel
    have hnf := nfl_le T k
    have hnu := nus_le T k
    by_cases hkG : k < G
    · have hki : (k : Int) < G := by omega
      obtain ⟨_, _, heq, hc⟩ := (HT.out.keep0 hX).at_ hne
      cases heq
      have cC := hc (3 + 17 * k) (by rw [HL.out]; omega)
      rw [show T.getD (3 + 17 * k) 0 = cw T k from rfl] at cC
      have hcw := HS.out.shp.cw_lt k
      have KC := fun u => controlAt_any k (by omega) u
      have K63 := fun u => soundControl_any (cw T k) hcw u
      simp only [HS.out.ctl k hkG] at K63
      have K64 := HKS.out k hkG wr hX
      rw [HS.out.slt k hkG] at K64
      have K66 := fun u => full_any (cw T k) hcw u
      have K67 := fun u => deleted_any (cw T k) hcw u
      have K65a := fun u => ones_any (fl (cw T k)) (fl_lt256 _) u
      have hor := Nat.or_lt_two_pow (n := 8) (fl_lt256 (cw T k)) (mt_lt256 (cw T k) 254)
      have K65b := fun u => ones_any (fl (cw T k) ||| mt (cw T k) 254) hor u
      have eor := bits_or_u64_nat (fl (cw T k)) (mt (cw T k) 254) (fl_lt _) (mt_lt _ _)
      have hp1 := pc_le (fl (cw T k))
      have hp2 := pc_le (fl (cw T k) ||| mt (cw T k) 254)
      have HN1 := hid (show nfl T (k + 1) = nfl T k + pc (fl (cw T k)) from rfl)
      have HN2 := hid (show nus T (k + 1) = nus T k + pc (fl (cw T k) ||| mt (cw T k) 254) from rfl)
      have HX := hid hX
      clear hX hc
      generalize nfl T k = nf at *
      generalize nus T k = nu at *
      generalize pc (fl (cw T k)) = p1 at *
      generalize pc (fl (cw T k) ||| mt (cw T k) 254) = p2 at *
      generalize (fl (cw T k) ||| mt (cw T k) 254) = fo at *
      generalize mt (cw T k) 254 = md at *
      generalize fl (cw T k) = f at *
      generalize cw T k = cx at *
      go_wp2_with (first | (go_at_call 52; refine met (KC _) ?_) | (go_at_call 63; refine met (K63 _) ?_))
      go_at_call 64
      refine K64.mono ?_
      rintro _ w2 ⟨rfl, hX2⟩
      have HX2 := hid (HX.out.trans hX2)
      clear hX2 K64 HX cC
      go_wp2_with (first | (go_at_call 66; refine met (K66 _) ?_) | (go_at_call 67; refine met (K67 _) ?_))
      go_at_call 65
      refine met (K65a _) ?_
      go_wp2_with (first | (go_at_call 66; refine met (K66 _) ?_) | (go_at_call 67; refine met (K67 _) ?_))
      go_at_call 65
      refine met (K65b _) ?_
      go_wp2_with fail
      go_roundw
      case rel => exact ⟨k + 1, by go_num, by omega, by rw [HN1.out]; simp, by rw [HN2.out]; simp, HX2.out⟩
      case measure => simp [intOf]; omega
    · obtain rfl : k = G := by omega
      obtain ⟨_, _, heq, hc⟩ := (HT.out.keep0 hX).at_ hne
      cases heq
      have c1 := hc 1 (by rw [HL.out]; omega)
      have c2 := hc 2 (by rw [HL.out]; omega)
      have K1w := HK1.out wr hX
      have huse := HS.out.use
      rw [HS.out.cnt] at c1
      have hle : nus T k ≤ 7 * k := by omega
      obtain ⟨lf, hlf⟩ : ∃ lf, T.getD 2 0 = lf := ⟨_, rfl⟩
      rw [hlf] at c2 huse
      have hlfi : 7 * (k : Int) - (nus T k : Int) = (lf : Int) := by omega
      have KAw := HKA.out wr hX
      have HX := hid hX
      clear hX hc hlf
      generalize nfl T k = nf at *
      generalize nus T k = nu at *
      go_wp2_with (first | (go_at_call 62; refine met K1w ?_))
      refine KAw.mono ?_
      clear KAw
      rintro _ w2 ⟨rfl, hX2⟩
      have HX2 := hid (HX.out.trans hX2)
      clear hX2
      go_wp2
      go_ret
      exact ⟨rfl, HX2.out⟩
theorem len_true (a : Option Addr) (c : Nat) (T : List Nat) (G : Nat) (hS : Sd T G) (w : World) (hT : Wd w a T) :
    Calls Tryd.prog 13 #[.slice a (3 + 17 * G) c] w (SayPost w (.tuple #[.int .i64 (T.getD 1 0 : Nat), .int .i64 0])) := by
  have hlen := hS.shp.len
  have hG := hS.shp.gp.le
  have hn := nfl_le T G
  rw [← hS.cnt] at hn
  have K := sound_true a c T G hS w hT
  have hne : T ≠ [] := by rintro rfl; simp at hlen; omega
  obtain ⟨b, o, rfl, hcc⟩ := hT.at_ hne
  have HT := hid hT
  have HL := hid hlen
  clear hcc hT hlen hS
  go_enter Tryd.func13, Tryd.ntmps13
  go_wp2_with fail
  refine K.mono ?_
  clear K
  rintro _ w1 ⟨rfl, hX⟩
  obtain ⟨_, _, heq, hc⟩ := (HT.out.keep0 hX).at_ hne
  cases heq
  have c1 := hc 1 (by rw [HL.out]; omega)
  have HX := hid hX
  clear hc hX
  generalize T.getD 1 0 = en at *
  go_wp2
  go_ret2
  exact ⟨rfl, HX.out⟩
end Go.Proofs.YtkknadkcpndnaaaDoor
