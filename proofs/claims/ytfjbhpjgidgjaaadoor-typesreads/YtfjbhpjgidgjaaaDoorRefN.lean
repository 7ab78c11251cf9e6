/-
  How the reference reads numbers; no statement is proved here.
-/
import Derived.Test.YtfjbhpjgidgjaaaDoorDec
namespace Go.Proofs.YtfjbhpjgidgjaaaDoor
open Go.RowKit

/-- The reference's reader in memory. -/
def Rdf (w : World) (p : Nat) (a : Option Addr) (n c at_ : Nat) (f : Bool) : Prop := w.heap[p]? = some (.cells #[.slice a n c, .int .i64 (at_ : Int), .bool f] 74 (0, 0))

theorem Rdf.cells {w : World} {p : Nat} {a : Option Addr} {n c at_ : Nat} {f : Bool} (h : Rdf w p a n c at_ f) : w.cell? ⟨p, 0, none⟩ = some (.slice a n c) ∧ w.cell? ⟨p, 1, none⟩ = some (.int .i64 (at_ : Int)) ∧ w.cell? ⟨p, 2, none⟩ = some (.bool f) ∧ ∀ i, w.frozen? ⟨p, i, none⟩ = false :=
  ⟨by rw [cell_of_row _ _ _ _ _ _ h]; rfl, by rw [cell_of_row _ _ _ _ _ _ h]; rfl, by rw [cell_of_row _ _ _ _ _ _ h]; rfl, fun i => frozen_of_row _ _ i _ _ h⟩
theorem Rdf.putAt {w : World} {p : Nat} {a : Option Addr} {n c at_ : Nat} {f : Bool} (h : Rdf w p a n c at_ f) (b : Nat) : Rdf (w.setCell ⟨p, 1, none⟩ (.int .i64 (b : Int))) p a n c b f := by
  unfold Rdf; rw [heap_setCell_same w p 1 _ _ _ h]; rfl
theorem Rdf.putF {w : World} {p : Nat} {a : Option Addr} {n c at_ : Nat} {f : Bool} (h : Rdf w p a n c at_ f) (g : Bool) : Rdf (w.setCell ⟨p, 2, none⟩ (.bool g)) p a n c at_ g := by
  unfold Rdf; rw [heap_setCell_same w p 2 _ _ _ h]; rfl
theorem Rdf.keep {S : List Nat} {w w' : World} {p : Nat} {a : Option Addr} {n c at_ : Nat} {f : Bool} (h : Rdf w p a n c at_ f) (e : Ext S w w') (hs : p ∉ S) : Rdf w' p a n c at_ f := Ext.keep e h hs

structure NufPost (k : IntKind) (w : World) (p : Nat) (a : Option Addr) (n c : Nat) (r : Int × Nat × Bool) (e : Ending) (w' : World) : Prop where
  e : e = .returned (.int k r.1)
  r : Rdf w' p a n c r.2.1 r.2.2
  x : Ext [p] w w'

/-- From the sixth byte on there is no number. -/
theorem scan_deep : ∀ (L : List Int) (i : Nat) (n : Int), 5 ≤ i → 0 ≤ n → (∀ x ∈ L, 0 ≤ x ∧ x < 256) → scan L i n = none
  | [], _, _, _, _, _ => rfl
  | c :: r, i, n, hi, hn, hb => by
    have hc := hb c (by simp)
    have hp : (2 : Int) ^ 35 ≤ 2 ^ (7 * i) := pow_le (by omega)
    have hm : 0 ≤ c % 128 * 2 ^ (7 * i) := Int.mul_nonneg (by omega) (by omega)
    rw [scan]
    by_cases h1 : lim < n + c % 128 * 2 ^ (7 * i)
    · rw [if_pos h1]
    rw [if_neg h1]
    by_cases h2 : c < 128
    · rw [if_pos h2]
      by_cases h3 : c = 0
      · rw [if_pos ⟨h3, by omega⟩]
      · exfalso
        have : 1 * (2 : Int) ^ (7 * i) ≤ c % 128 * 2 ^ (7 * i) := Int.mul_le_mul_of_nonneg_right (by omega) (by omega)
        unfold lim at h1
        omega
    · rw [if_neg h2]
      exact scan_deep r (i + 1) _ (by omega) (by omega) (fun x hx => hb x (by simp [hx]))

theorem shl_any (w : World) (d : Int) (k : Nat) (yk : IntKind) (hd : 0 ≤ d) (hk : k ≤ 9) (h : d * 2 ^ (7 * k) ≤ 18446744073709551615) : (Op.shift .shl .u64 d yk (7 * (k : Int))).run Tryd.prog w = .ok (.int .u64 (d * 2 ^ (7 * k))) w := by
  have hp := pow7_pos k
  have hm := Int.mul_nonneg hd (Int.le_of_lt hp)
  unfold Op.shift
  rw [if_neg (by omega)]
  have e1 : (7 * (k : Int)).toNat = 7 * k := by omega
  have e2 : IntKind.bits .u64 = 64 := rfl
  simp only [e1, e2, Sem.run_pure]
  rw [Nat.min_eq_left (by omega), IntKind.wrap_u64, Int.emod_eq_of_lt hm (by omega)]

/-- What a number grows by. -/
theorem grow7 {x d : Int} {k : Nat} (hk : k ≤ 9) (hx0 : 0 ≤ x) (hx : x < 2 ^ (7 * k)) (hd0 : 0 ≤ d) (hd : d < 128) (h9 : k = 9 → d ≤ 1) : 0 ≤ d * 2 ^ (7 * k) ∧ x + d * 2 ^ (7 * k) ≤ 18446744073709551615 ∧ x + d * 2 ^ (7 * k) < 2 ^ (7 * (k + 1)) := by
  have hp := pow7_pos k
  have hm := Int.mul_nonneg hd0 (Int.le_of_lt hp)
  have h1 : d * 2 ^ (7 * k) ≤ 127 * 2 ^ (7 * k) := Int.mul_le_mul_of_nonneg_right (by omega) (by omega)
  have h2 := pow7 k
  refine ⟨hm, ?_, by omega⟩
  by_cases h : k = 9
  · subst h
    have h3 : d * 2 ^ (7 * 9) ≤ 1 * 2 ^ (7 * 9) := Int.mul_le_mul_of_nonneg_right (h9 rfl) (by omega)
    omega
  · have : (2 : Int) ^ (7 * (k + 1)) ≤ 2 ^ 63 := pow_le (by omega)
    omega

set_option maxRecDepth 100000 in
set_option maxHeartbeats 1000000 in
theorem long_any (p : Nat) (a : Option Addr) (L : List Int) (n c at_ : Nat) (f : Bool) (w : World) (hR : Rdf w p a n c at_ f) (hS : Src w p a n c L) (ha : at_ ≤ n) :
    Calls Tryd.prog 72 #[.pointer (some ⟨p, 0, none⟩), .int .u64 2147483647] w (NufPost .u64 w p a n c (numR L at_ f)) := by
  have HR := hid hR
  obtain ⟨c0, c1, c2, hf⟩ := hR.cells
  have HS := hid hS
  have HN := hid hS.hn
  have hl := hS.hl
  clear hR hS
  have HNO : Hid (rdN L at_ = none → NufPost .u64 w p a n c (numR L at_ f) (.returned (.int .u64 0)) (w.setCell ⟨p, 2, none⟩ (.bool true))) := fun hr => by
    have e : numR L at_ f = (0, at_, true) := by unfold numR; cases f <;> simp [hr]
    rw [e]
    exact ⟨rfl, HR.out.putF true, Ext.setCell [p] _ _ _ (by simp)⟩
  have HNT : Hid (f = true → NufPost .u64 w p a n c (numR L at_ f) (.returned (.int .u64 0)) (w.setCell ⟨p, 2, none⟩ (.bool true))) := fun hr => by
    have e : numR L at_ f = (0, at_, true) := by unfold numR; simp [hr]
    rw [e]
    exact ⟨rfl, HR.out.putF true, Ext.setCell [p] _ _ _ (by simp)⟩
  cases f
  · clear HNT
    go_enter Tryd.func72, Tryd.ntmps72
    go_wp2_with fail
    go_loop [6, 7] (fun v u => ∃ k : Nat, ∃ x : Int, v = .int .u64 x ∧ u = .int .i64 k ∧ k ≤ 9 ∧ at_ + k ≤ n ∧ 0 ≤ x ∧ Hid (x < 2 ^ (7 * k)) ∧ Hid (scan (L.drop (at_ + k)) k x = scan (L.drop at_) 0 0)) (fun _ u => (10 - (intOf u)).toNat)
    case atStart => exact ⟨0, 0, rfl, rfl, by omega, by omega, by omega, by show (0 : Int) < _; decide, rfl⟩
    case round =>
      obtain ⟨k, x, rfl, rfl, hk, hkn, hx0, hx1, hS⟩ := hrel
      by_cases hlt : at_ + k < n
      · have HSt := hid (scan_at L (at_ + k) k x (by rw [HN.out]; omega))
        rw [hS.out] at HSt
        have HS0 := hS
        clear hS
        obtain ⟨b, o, rfl, hcell⟩ := HS.out.hb.at_ (by intro h; have := HN.out; rw [h] at this; simp at this; omega)
        have hcl := hcell (at_ + k) (by rw [HN.out]; omega)
        have hch : 0 ≤ L.getD (at_ + k) 0 ∧ L.getD (at_ + k) 0 < 256 := HS.out.hv _ (by have := HN.out; simp [List.getD, show at_ + k < L.length by omega])
        clear hcell
        generalize L.getD (at_ + k) 0 = ch at *
        obtain ⟨hc0, hc1⟩ := hch
        have HDeep : Hid (5 ≤ k → rdN L at_ = none) := fun h5 => by
          unfold rdN
          rw [← HS0.out, scan_deep _ _ _ h5 hx0 (fun x hx => HS.out.hv x (List.mem_of_mem_drop hx))]; rfl
        by_cases h9 : k = 9 ∧ 1 < ch
        · have HNo := hid (HNO.out (HDeep.out (by omega)))
          obtain ⟨rfl, hc9⟩ := h9
          clear HNO HDeep HSt
          go_wp2_with fail
          go_ret
          exact HNo.out
        · have hg := grow7 (d := ch % 128) hk hx0 hx1.out (by omega) (by omega) (by omega)
          have hsl := fun yk => shl_any w (ch % 128) k yk (by omega) hk (by omega)
          have HLt := hid hg.2.2
          obtain ⟨hs0, hs1, _⟩ := hg
          have hg9 : ((k : Int) == 9) = false ∨ (((k : Int) == 9) = true ∧ ch ≤ 1) := by
            by_cases e : k = 9
            · right; subst e; exact ⟨rfl, by omega⟩
            · left; exact beq_false_of_ne (by omega)
          have HG9 := hid h9
          clear h9
          generalize hs : ch % 128 * 2 ^ (7 * k) = s at *
          have HSD := hid hs
          clear hs
          have hw1 : IntKind.u64.wrap (ch % 128 * 2 ^ (7 * k)) = s := by rw [HSD.out, IntKind.wrap_u64]; omega
          have hw2 : IntKind.u64.wrap (x + s) = x + s := by rw [IntKind.wrap_u64]; omega
          by_cases hlast : ch < 128
          · by_cases hover : 2147483647 < x + s
            · have HNo := hid (HNO.out (by
                unfold rdN
                rw [HSt.out, if_pos (by unfold lim; exact hover)]; rfl))
              clear HNO HDeep HSt HS0 HLt
              rcases hg9 with hk9 | ⟨hk9, hc9⟩
              · cases hez : (ch == 0)
                · go_wp2_with fail
                  go_ret
                  exact HNo.out
                · go_wp2_with fail
                  go_ret
                  exact HNo.out
              · cases hez : (ch == 0)
                · go_wp2_with fail
                  go_ret
                  exact HNo.out
                · go_wp2_with fail
                  go_ret
                  exact HNo.out
            · have HSt2 := hid ((HSt.out.trans (if_neg (by unfold lim; exact hover))).trans (if_pos hlast))
              clear HSt
              by_cases hz : ch = 0 ∧ 0 < k
              · have HNo := hid (HNO.out (by
                  unfold rdN
                  rw [HSt2.out, if_pos hz]; rfl))
                obtain ⟨hz1, hz2⟩ := hz
                have hez : (ch == 0) = true := by simpa using hz1
                clear HNO HDeep HSt2 HS0 HLt hz1
                rcases hg9 with hk9 | ⟨hk9, hc9⟩
                · go_wp2_with fail
                  go_ret
                  exact HNo.out
                · go_wp2_with fail
                  go_ret
                  exact HNo.out
              · have HRd : Hid (rdN L at_ = some (x + s, at_ + (k + 1))) := by
                  show rdN L at_ = _
                  unfold rdN
                  rw [HSt2.out, if_neg hz]; rfl
                have hk9 : ((k : Int) == 9) = false := by
                  rcases hg9 with h | ⟨h, _⟩
                  · exact h
                  · have e : k = 9 := by have := eq_of_beq h; omega
                    have := HDeep.out (by omega)
                    rw [HRd.out] at this; cases this
                have HFin : Hid (NufPost .u64 w p (some ⟨b, o, none⟩) n c (numR L at_ false) (.returned (.int .u64 (x + s))) (w.setCell ⟨p, 1, none⟩ (.int .i64 ((at_ : Int) + k + 1)))) := by
                  have e : numR L at_ false = (x + s, at_ + (k + 1), false) := by unfold numR; simp [HRd.out]
                  rw [e]
                  have h1 := HR.out.putAt (at_ + (k + 1))
                  have e2 : ((at_ + (k + 1) : Nat) : Int) = (at_ : Int) + k + 1 := by omega
                  rw [e2] at h1
                  exact ⟨rfl, h1, Ext.setCell [p] _ _ _ (by simp)⟩
                clear HNO HDeep HSt2 HS0 HRd HLt hg9
                by_cases hz1 : ch = 0
                · have hez : (ch == 0) = true := by simpa using hz1
                  obtain rfl : k = 0 := by omega
                  obtain rfl : ch % 128 = s := by have := HSD.out; simpa using this
                  have hcl0 : w.cell? ⟨b, o + at_, none⟩ = some (.int .u8 ch) := hcl
                  have HFin2 : Hid (NufPost .u64 w p (some ⟨b, o, none⟩) n c (numR L at_ false) (.returned (.int .u64 (x + ch % 128))) (w.setCell ⟨p, 1, none⟩ (.int .i64 ((at_ : Int) + 1)))) := by
                    show NufPost .u64 w p (some ⟨b, o, none⟩) n c (numR L at_ false) (.returned (.int .u64 (x + ch % 128))) (w.setCell ⟨p, 1, none⟩ (.int .i64 ((at_ : Int) + 1)))
                    have := HFin.out
                    simpa using this
                  clear hsl HFin HSD hcl hz hz1 hw1
                  go_wp2_with fail
                  go_ret
                  exact HFin2.out
                · have hez : (ch == 0) = false := by simpa using hz1
                  clear hz hz1
                  go_wp2_with fail
                  go_ret
                  exact HFin.out
          · have HSt2 := hid (show scan (L.drop (at_ + (k + 1))) (k + 1) (x + s) = scan (L.drop at_) 0 0 from by
              rw [HSt.out]
              by_cases hover : lim < x + s
              · rw [if_pos hover, scan_over _ _ _ hover]
              · rw [if_neg hover, if_neg hlast]; rfl)
            have hk9 : ((k : Int) == 9) = false := by
              rcases hg9 with h | ⟨h, _⟩
              · exact h
              · omega
            have hk8 : k ≤ 8 := by have := HG9.out; omega
            clear HNO HDeep HSt HS0 hg9
            go_wp2_with fail
            go_round
            case rel => exact ⟨k + 1, x + s, rfl, by go_num, by omega, by omega, by omega, HLt.out, HSt2.out⟩
            case measure => simp [intOf]; omega
      · have HNo := hid (HNO.out (by
          unfold rdN
          rw [← hS.out, List.drop_eq_nil_of_le (by have := HN.out; omega)]; rfl))
        clear HNO hS
        have hd : decide ((at_ : Int) + k < n) = false := decide_eq_false (by omega)
        go_wp2_with fail
        go_ret
        exact HNo.out
  · have HNo := hid (HNT.out rfl)
    clear HNO HNT
    go_enter Tryd.func72, Tryd.ntmps72
    go_wp2_with fail
    go_loop [7] (fun u => u = .int .i64 0) (fun _ => 0)
    case atStart => rfl
    case round =>
      subst hrel
      go_wp2_with fail
      go_ret
      exact HNo.out

theorem numR_bd (L : List Int) (a : Nat) (f : Bool) (n : Nat) (ha : a ≤ n) (hn : L.length = n) : 0 ≤ (numR L a f).1 ∧ (numR L a f).1 ≤ 2147483647 ∧ (numR L a f).2.1 ≤ n := by
  unfold numR
  cases f
  · cases hr : rdN L a with
    | none => simpa using ha
    | some r =>
      have h := rdN_bd hr
      unfold lim at h
      simp
      omega
  · simpa using ha

theorem int_any (p : Nat) (a : Option Addr) (L : List Int) (n c at_ : Nat) (f : Bool) (w : World) (hR : Rdf w p a n c at_ f) (hS : Src w p a n c L) (ha : at_ ≤ n) :
    Calls Tryd.prog 61 #[.pointer (some ⟨p, 0, none⟩)] w (NufPost .i64 w p a n c (numR L at_ f)) := by
  have K := long_any p a L n c at_ f w hR hS ha
  obtain ⟨h0, h1, _⟩ := numR_bd L at_ f n ha hS.hn
  clear hR hS
  generalize numR L at_ f = r at *
  obtain ⟨v, b, g⟩ := r
  simp only at h0 h1
  go_enter Tryd.func61, Tryd.ntmps61
  go_wp2_with fail
  refine K.mono ?_
  clear K
  rintro e w1 ⟨rfl, hR1, hE1⟩
  have HR1 := hid hR1
  have HE1 := hid hE1
  clear hR1 hE1
  simp only
  go_wp2_with fail
  go_ret
  exact ⟨rfl, HR1.out, HE1.out⟩

def BackPost (w : World) (p : Nat) (a : Option Addr) (n c b : Nat) (e : Ending) (w' : World) : Prop := e = .returned (.tuple #[]) ∧ Rdf w' p a n c b true ∧ Ext [p] w w'

theorem back_any (p : Nat) (a : Option Addr) (n c at_ b : Nat) (f : Bool) (w : World) (hR : Rdf w p a n c at_ f) :
    Calls Tryd.prog 73 #[.pointer (some ⟨p, 0, none⟩), .int .i64 (b : Int)] w (BackPost w p a n c (if f then at_ else b)) := by
  have HR := hid hR
  obtain ⟨c0, c1, c2, hf⟩ := hR.cells
  clear hR
  cases f
  · go_enter Tryd.func73, Tryd.ntmps73
    go_wp2_with fail
    go_end0
    exact ⟨rfl, (HR.out.putAt b).putF true, (Ext.setCell [p] _ _ _ (by simp)).trans (Ext.setCell _ _ _ _ (by simp))⟩
  · go_enter Tryd.func73, Tryd.ntmps73
    go_wp2_with fail
    go_end0
    exact ⟨rfl, HR.out, Ext.refl _ _⟩

end Go.Proofs.YtfjbhpjgidgjaaaDoor
