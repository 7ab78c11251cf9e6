/-
  Which words are a table: the program's own checks; no statement is proved here.
-/
import Derived.Test.YtkknadkcpndnaaaDoorHelp
import Derived.Deep.OwnRows
namespace Go.Proofs.YtkknadkcpndnaaaDoor
open Go.RowKit Go.Shelf
open Pr (Gp GpI sq pl)
attribute [local go_sem] Oper.semAt_some run_store_func

/-! ### control words -/
def scB (c : Nat) : Bool := decide ((fl c ||| (mt c 128 ||| mt c 254)) = 255) && (decide (mt c 128 = 0) || decide (mt c 254 = 0))
theorem soundControl_any (c : Nat) (hc : c < 18446744073709551616) (w : World) : Calls Tryd.prog 63 #[.int .u64 (c : Nat)] w fun e w' => e = .returned (.bool (scB c)) ∧ w' = w := by
  have K1 := fun u => full_any c hc u
  have K2 := fun u => open_any c hc u
  have K3 := fun u => empty_any c hc u
  have K4 := fun u => deleted_any c hc u
  have e := bits_or_u64_nat (fl c) (mt c 128 ||| mt c 254) (fl_lt c) (or_lt64 (mt_lt c 128) (mt_lt c 254))
  obtain ⟨r, hr⟩ : ∃ r, scB c = r := ⟨_, rfl⟩
  rw [hr]
  unfold scB at hr
  generalize (mt c 128 ||| mt c 254) = op at *
  generalize hfo : (fl c ||| op) = fo at *
  generalize mt c 128 = me at *
  generalize mt c 254 = md at *
  generalize fl c = f at *
  by_cases h1 : fo = 255
  · have h1' : ((fo : Int) != 255) = false := by simp [h1]
    simp only [h1, decide_true, Bool.true_and] at hr
    by_cases h2 : me = 0
    · have h2' : ((me : Int) == 0) = true := by simp [h2]
      simp only [h2, decide_true, Bool.true_or] at hr
      subst hr
      go_enter Tryd.func63, Tryd.ntmps63
      go_wp2_with (first | (go_at_call 66; refine met (K1 _) ?_) | (go_at_call 72; refine met (K2 _) ?_) | (go_at_call 73; refine met (K3 _) ?_) | (go_at_call 67; refine met (K4 _) ?_))
      go_ret
      exact ⟨rfl, rfl⟩
    · have h2' : ((me : Int) == 0) = false := by simpa using h2
      simp only [h2, decide_false, Bool.false_or] at hr
      by_cases h3 : md = 0
      · have h3' : ((md : Int) == 0) = true := by simp [h3]
        simp only [h3, decide_true] at hr
        subst hr
        go_enter Tryd.func63, Tryd.ntmps63
        go_wp2_with (first | (go_at_call 66; refine met (K1 _) ?_) | (go_at_call 72; refine met (K2 _) ?_) | (go_at_call 73; refine met (K3 _) ?_) | (go_at_call 67; refine met (K4 _) ?_))
        go_ret
        exact ⟨rfl, rfl⟩
      · have h3' : ((md : Int) == 0) = false := by simpa using h3
        simp only [h3, decide_false] at hr
        subst hr
        go_enter Tryd.func63, Tryd.ntmps63
        go_wp2_with (first | (go_at_call 66; refine met (K1 _) ?_) | (go_at_call 72; refine met (K2 _) ?_) | (go_at_call 73; refine met (K3 _) ?_) | (go_at_call 67; refine met (K4 _) ?_))
        go_ret
        exact ⟨rfl, rfl⟩
  · have h1' : ((fo : Int) != 255) = true := by simp; omega
    simp only [h1, decide_false, Bool.false_and] at hr
    subst hr
    go_enter Tryd.func63, Tryd.ntmps63
    go_wp2_with (first | (go_at_call 66; refine met (K1 _) ?_) | (go_at_call 72; refine met (K2 _) ?_) | (go_at_call 73; refine met (K3 _) ?_) | (go_at_call 67; refine met (K4 _) ?_))
    go_ret
    exact ⟨rfl, rfl⟩

/-! ### the slots of a group -/
def slB (T : List Nat) (g i : Nat) : Bool := if (fl (cw T g)).testBit i then decide (byt (cw T g) i = hsw T g i % 128) else decide (hsw T g i = 0) && decide (idw T g i = 0)
def ssB (T : List Nat) (g : Nat) : Bool := (List.range 8).all (slB T g)
theorem bit_int (f i : Nat) (hf : f < 18446744073709551616) : bits BinOp.and IntKind.u64 ((f : Int) / 2 ^ i) 1 = if f.testBit i then 1 else 0 := by
  have e1 : (f : Int) / 2 ^ i = ((f / 2 ^ i : Nat) : Int) := by norm_cast
  have h1 : f / 2 ^ i < 18446744073709551616 := Nat.lt_of_le_of_lt (Nat.div_le_self _ _) hf
  rw [e1, show (1 : Int) = ((1 : Nat) : Int) from rfl, bits_and_u64_nat _ 1 h1 (by omega), Nat.and_one_is_mod, Nat.testBit_eq_decide_div_mod_eq]
  by_cases q : f / 2 ^ i % 2 = 1
  · simp [q]
  · have : f / 2 ^ i % 2 = 0 := by omega
    simp [this]
set_option maxRecDepth 100000 in
set_option maxHeartbeats 1000000 in
theorem soundSlots_any (a : Option Addr) (c : Nat) (T : List Nat) (G g : Nat) (hS : Shp T G) (hg : g < G) (w : World) (hT : Wd w a T) :
    Calls Tryd.prog 64 #[.slice a (3 + 17 * G) c, .int .i64 (g : Nat)] w (SayPost w (.bool (ssB T g))) := by
  have hG := hS.gp.le
  have hlen := hS.len
  obtain ⟨b, o, rfl, hc⟩ := hT.at_ (by rintro rfl; simp at hlen; omega)
  have K1 := fun u => controlAt_any g (by omega) u
  have cC := hc (3 + 17 * g) (by omega)
  rw [show T.getD (3 + 17 * g) 0 = cw T g from rfl] at cC
  have hcw := hS.cw_lt g
  have K2 := fun u => full_any (cw T g) hcw u
  have KH := fun i (hi : i < 8) u => hashAt_any g i (by omega) (by omega) u
  have KI := fun i (hi : i < 8) u => idAt_any g i (by omega) (by omega) u
  have KS := fun i u => split_any (hsw T g i) (hS.hs_lt g i) u
  have KG := fun i (hi : i < 8) u => get_ok (cw T g) i hi u
  have hfl := fl_lt (cw T g)
  have HC := hid hT
  have hne : T ≠ [] := by rintro rfl; simp at hlen; omega
  have HL := hid hlen
  have hss : Hid (ssB T g = (List.range 8).all (slB T g)) := rfl
  have hsl : Hid (∀ i, slB T g i = if (fl (cw T g)).testBit i then decide (byt (cw T g) i = hsw T g i % 128) else decide (hsw T g i = 0) && decide (idw T g i = 0)) := fun _ => rfl
  have HBy := hid (byt_lt (cw T g))
  have HAll : Hid (∀ k, k < 8 → slB T g k = false → ssB T g = false) := fun k hk h => by
    show ssB T g = false
    unfold ssB
    rw [List.all_eq_false]
    exact ⟨k, by simpa using hk, by simp [h]⟩
  have HAllT : Hid ((∀ k, k < 8 → slB T g k = true) → ssB T g = true) := fun h => by
    show ssB T g = true
    unfold ssB
    rw [List.all_eq_true]
    intro k hk
    exact h k (by simpa using hk)
  clear hS hT hlen hc hss
  generalize hcx : cw T g = cx at *
  clear hcx
  go_enter Tryd.func64, Tryd.ntmps64
  go_wp2_with (first | (go_at_call 52; refine met (K1 _) ?_) | (go_at_call 66; refine met (K2 _) ?_))
  clear K1 K2 cC
  go_loopw [21] (fun q wr => ∃ k : Nat, q = .int .i64 k ∧ k ≤ 8 ∧ (∀ j, j < k → slB T g j = true) ∧ Ext [] w wr) (fun q _ => (8 - (intOf q)).toNat)
  case atStart => exact ⟨0, rfl, Nat.zero_le _, fun j hj => absurd hj (by omega), Ext.refl _ _⟩
  case round =>
    obtain ⟨i, rfl, hi8, hall, hE⟩ := hrel
    by_cases hi : i < 8
    · have hii : (i : Int) < 8 := by omega
      obtain ⟨_, _, heq, hc⟩ := (HC.out.keep0 hE).at_ hne
      cases heq
      have cH := hc (3 + 17 * g + 1 + 2 * i) (by rw [HL.out]; omega)
      have cI := hc (3 + 17 * g + 2 + 2 * i) (by rw [HL.out]; omega)
      rw [show T.getD (3 + 17 * g + 1 + 2 * i) 0 = hsw T g i from rfl] at cH
      rw [show T.getD (3 + 17 * g + 2 + 2 * i) 0 = idw T g i from rfl] at cI
      have hbit := bit_int (fl cx) i hfl
      have hb256 := HBy.out i
      have Hsl := hid (hsl.out i)
      have Hall := hid hall
      have HE := hid hE
      have KH' := KH i hi
      have KI' := KI i hi
      have KS' := KS i
      have KG' := KG i hi
      clear hall hE hc KH KI KS KG
      generalize hsw T g i = hv at *
      generalize idw T g i = dv at *
      generalize byt cx i = bv at *
      generalize fl cx = f at *
      cases hf : f.testBit i with
      | false =>
        rw [hf] at hbit
        replace Hsl := hid (show slB T g i = (decide (hv = 0) && decide (dv = 0)) by have := Hsl.out; rw [hf] at this; simpa using this)
        simp only [Bool.false_eq_true, if_false] at hbit
        by_cases h0 : hv = 0
        · have h0' : ((hv : Int) != 0) = false := by simp [h0]
          by_cases d0 : dv = 0
          · have d0' : ((dv : Int) != 0) = false := by simp [d0]
            have HN : Hid (∀ j, j < i + 1 → slB T g j = true) := fun j hj => by
              by_cases e : j = i
              · subst e; rw [Hsl.out, h0, d0]; rfl
              · exact Hall.out j (by omega)
            clear Hsl
            go_wp2_with fail
            go_quiet (first | (go_at_call 77; refine Calls.quiet_of_same (KH' _)) | (go_at_call 42; refine Calls.quiet_of_same (KI' _)))
            go_wp2_with fail
            go_roundw
            case rel => exact ⟨i + 1, by go_num, by omega, HN.out, HE.out.trans (Ext.drewN [] _ _)⟩
            case measure => simp [intOf]; omega
          · have d0' : ((dv : Int) != 0) = true := by simpa using d0
            have HR := hid (HAll.out i hi (by rw [Hsl.out]; simp [d0]))
            clear Hsl
            go_wp2_with fail
            go_quiet (first | (go_at_call 77; refine Calls.quiet_of_same (KH' _)) | (go_at_call 42; refine Calls.quiet_of_same (KI' _)))
            go_wp2
            go_ret
            exact ⟨by rw [HR.out]; rfl, HE.out.trans (Ext.drewN [] _ _)⟩
        · have h0' : ((hv : Int) != 0) = true := by simpa using h0
          have HR := hid (HAll.out i hi (by rw [Hsl.out]; simp [h0]))
          clear Hsl
          go_wp2_with fail
          go_quiet (first | (go_at_call 77; refine Calls.quiet_of_same (KH' _)) | (go_at_call 42; refine Calls.quiet_of_same (KI' _)))
          go_wp2
          go_ret
          exact ⟨by rw [HR.out]; rfl, HE.out.trans (Ext.drewN [] _ _)⟩
      | true =>
        rw [hf] at hbit
        replace Hsl := hid (show slB T g i = decide (bv = hv % 128) by have := Hsl.out; rw [hf] at this; simpa using this)
        simp only [if_true] at hbit
        have hm128 : hv % 128 < 128 := Nat.mod_lt _ (by omega)
        generalize hv % 128 = h2 at *
        by_cases hbh : bv = h2
        · have hbh' : ((bv : Int) != (h2 : Int)) = false := by simp [hbh]
          have HN : Hid (∀ j, j < i + 1 → slB T g j = true) := fun j hj => by
            by_cases e : j = i
            · subst e; rw [Hsl.out, hbh]; simp
            · exact Hall.out j (by omega)
          clear Hsl
          go_wp2_with fail
          go_quiet (first | (go_at_call 77; refine Calls.quiet_of_same (KH' _)) | (go_at_call 42; refine Calls.quiet_of_same (KI' _)))
          go_wp2_with (first | (go_at_call 69; refine met (KS' _) ?_) | (go_at_call 83; refine met (KG' _) ?_))
          go_roundw
          case rel => exact ⟨i + 1, by go_num, by omega, HN.out, HE.out.trans (Ext.drewN [] _ _)⟩
          case measure => simp [intOf]; omega
        · have hbh' : ((bv : Int) != (h2 : Int)) = true := by simp; omega
          have HR := hid (HAll.out i hi (by rw [Hsl.out]; simp [hbh]))
          clear Hsl
          go_wp2_with fail
          go_quiet (first | (go_at_call 77; refine Calls.quiet_of_same (KH' _)) | (go_at_call 42; refine Calls.quiet_of_same (KI' _)))
          go_wp2_with (first | (go_at_call 69; refine met (KS' _) ?_) | (go_at_call 83; refine met (KG' _) ?_))
          go_ret
          exact ⟨by rw [HR.out]; rfl, HE.out.trans (Ext.drewN [] _ _)⟩
    · obtain rfl : i = 8 := by omega
      have HR := hid (HAllT.out hall)
      have HE := hid hE
      clear hall hE
      go_wp2
      go_ret
      exact ⟨by rw [HR.out]; rfl, HE.out⟩
end Go.Proofs.YtkknadkcpndnaaaDoor
