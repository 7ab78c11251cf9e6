/-
  The statements' own 'leads': is a list a way?; no statement is proved here.
-/
import Derived.Test.YtfjabjnajcfamaaOwn
import Derived.Test.YtfjabjnajcfamaaBfs
import Derived.Deep.LoopGhost
namespace Go.Proofs.Ytfjabjnajcfamaa
open Go.RowKit

theorem qa_last {u : List Nat} {y : Nat} : qa (u ++ [y]) u.length = y := by rw [qa_right (Nat.le_refl _)]; simp [qa]

/-- A way, place by place. -/
structure Wi (N : List (List Nat)) (R : List Nat) (v : List Nat) (t : Nat) : Prop where
  pos : 0 < v.length
  first : qa v 0 ∈ R
  next : ∀ i, 1 ≤ i → i < v.length → qa v i ∈ nxt N (qa v (i - 1))
  last : qa v (v.length - 1) = t

theorem Wy.wi {N : List (List Nat)} {R : List Nat} {v : List Nat} {t : Nat} (h : Wy N R v t) : Wi N R v t := by
  induction h with
  | @root x h => exact ⟨by simp, by simpa [qa] using h, fun i h1 h2 => by simp at h2; omega, by simp [qa]⟩
  | @step u x y hu hy ih =>
    have hp := ih.pos
    refine ⟨by simp, by rw [qa_left ih.pos]; exact ih.first, fun i h1 h2 => ?_, by simp [qa_last]⟩
    simp only [List.length_append, List.length_singleton] at h2
    by_cases hi : i < u.length
    · rw [qa_left hi, qa_left (by omega)]
      exact ih.next i h1 hi
    · obtain rfl : i = u.length := by omega
      rw [qa_last, qa_left (by omega), ih.last]
      exact hy
theorem Wi.wy {N : List (List Nat)} {R : List Nat} {v : List Nat} {t : Nat} (h : Wi N R v t) : Wy N R v t := by
  have key : ∀ k, 1 ≤ k → k ≤ v.length → Wy N R (v.take k) (qa v (k - 1)) := by
    intro k
    induction k with
    | zero => intro h; omega
    | succ k ih =>
      intro _ hk
      by_cases h0 : k = 0
      · subst h0
        have : v.take 1 = [qa v 0] := by
          rw [List.take_add_one]
          simp [qa, show 0 < v.length by omega]
        rw [this]
        exact .root h.first
      · have e : v.take (k + 1) = v.take k ++ [qa v k] := by
          rw [List.take_add_one]
          simp [qa, show k < v.length by omega]
        rw [e]
        exact .step (ih (by omega) (by omega)) (h.next k (by omega) (by omega))
  have := key v.length h.pos (Nat.le_refl _)
  rwa [List.take_length, h.last] at this

/-- The like over ints. -/
structure Wx (N : List (List Nat)) (R : List Nat) (X : List Int) (t : Nat) (k : Nat) : Prop where
  pos : 0 < X.length
  last : X.getD (X.length - 1) 0 = (t : Int)
  first : X.getD 0 0 ∈ ci R
  next : ∀ i, 1 ≤ i → i < k → 0 ≤ X.getD (i - 1) 0 ∧ X.getD (i - 1) 0 < N.length ∧ X.getD i 0 ∈ ci (nxt N (X.getD (i - 1) 0).toNat)

theorem ci_mem {l : List Nat} {x : Nat} : (x : Int) ∈ ci l ↔ x ∈ l := by
  unfold ci
  rw [List.mem_map]
  constructor
  · rintro ⟨y, hy, e⟩
    have : y = x := by omega
    exact this ▸ hy
  · exact fun h => ⟨x, h, rfl⟩

theorem Wx.way {N : List (List Nat)} {R : List Nat} {X : List Int} {t : Nat} (h : Wx N R X t X.length) : ∃ v, X = ci v ∧ Wy N R v t := by
  have hnn : ∀ i, i < X.length → 0 ≤ X.getD i 0 := fun i hi => by
    by_cases h0 : i = 0
    · subst h0
      obtain ⟨y, _, hy⟩ := List.mem_map.1 h.first
      rw [← hy]
      omega
    · obtain ⟨y, _, hy⟩ := List.mem_map.1 (h.next i (by omega) hi).2.2
      rw [← hy]
      omega
  have hX : X = ci (X.map Int.toNat) := by
    apply List.ext_getElem (by simp [ci])
    intro i h1 h2
    have := hnn i h1
    simp only [ci, List.map_map, List.getElem_map, Function.comp]
    have e : X.getD i 0 = X[i] := by simp [h1]
    omega
  have hq : ∀ i, i < X.length → ((qa (X.map Int.toNat) i : Nat) : Int) = X.getD i 0 := fun i hi => by
    have := hnn i hi
    have e : qa (X.map Int.toNat) i = (X.getD i 0).toNat := by simp [qa, hi]
    omega
  have hl : (X.map Int.toNat).length = X.length := by simp
  refine ⟨X.map Int.toNat, hX, Wi.wy ⟨by rw [hl]; exact h.pos, ?_, fun i h1 h2 => ?_, ?_⟩⟩
  · rw [← ci_mem, hq 0 h.pos]; exact h.first
  · rw [hl] at h2
    obtain ⟨q1, q2, q3⟩ := h.next i h1 h2
    rw [← ci_mem, hq i h2]
    have e : qa (X.map Int.toNat) (i - 1) = (X.getD (i - 1) 0).toNat := by
      have := hq (i - 1) (by omega)
      omega
    rw [e]
    exact q3
  · rw [hl]
    have := hq (X.length - 1) (by have := h.pos; omega)
    rw [h.last] at this
    omega
theorem Wx.of {N : List (List Nat)} {R : List Nat} {v : List Nat} {t : Nat} (hN : Net N) (hR : Nodes N R) (h : Wy N R v t) : Wx N R (ci v) t (ci v).length := by
  have hi := h.wi
  have hp := hi.pos
  have hq : ∀ i, i < v.length → (ci v).getD i 0 = ((qa v i : Nat) : Int) := fun i h => ci_get v i h
  have hlt : ∀ i, i < v.length → qa v i < N.length := fun i hil => by
    by_cases h0 : i = 0
    · subst h0; exact hR _ hi.first
    · exact hN.nxt _ _ (hi.next i (by omega) hil)
  rw [ci_len]
  refine ⟨by rw [ci_len]; exact hp, ?_, ?_, fun i h1 h2 => ?_⟩
  · rw [ci_len, hq _ (by omega), hi.last]
  · rw [hq 0 hp, ci_mem]; exact hi.first
  · rw [hq (i - 1) (by omega), hq i h2, Int.toNat_natCast, ci_mem]
    exact ⟨by omega, by have := hlt (i - 1) (by omega); omega, hi.next i h1 h2⟩

/-- What 'leads' answers. -/
def LdPost (w : World) (N : List (List Nat)) (R : List Nat) (X : List Int) (t : Nat) (e : Ending) (w' : World) : Prop :=
  ∃ b, e = .returned (.bool b) ∧ Ext [] w w' ∧ (b = true ↔ Wx N R X t X.length)

set_option maxRecDepth 100000 in
set_option maxHeartbeats 4000000 in
theorem leads_any (N : List (List Nat)) (R : List Nat) (tg : Nat) (a : Option Addr) (n c : Nat) (ra : Option Addr) (rn rc : Nat) (xa : Option Addr) (xn xc : Nat) (X : List Int) (w : World) (hN : Nt w a (cn N)) (hn : N.length = n) (hnb : n ≤ 65536) (hR : Is w ra (ci R)) (hrn : R.length = rn) (hrb : rn ≤ 17592186044416) (hX : Is w xa X) (hxn : X.length = xn) (hxb : xn ≤ 17592186044416) :
    Calls Try.prog 23 #[.slice a n c, .slice ra rn rc, .int .i64 tg, .slice xa xn xc] w (LdPost w N R X tg) := by
  have HN := hid hN
  have HNn := hid hn
  have HXn := hid hxn
  by_cases h0 : xn = 0
  · subst h0
    clear hN hn hR hrn hX hxn
    go_enter Try.func23, Try.ntmps23
    go_wp2_with fail
    go_ret
    exact ⟨false, rfl, Ext.refl _ _, by simp; intro h; have := h.pos; have := HXn.out; omega⟩
  · obtain ⟨xb, xo, rfl, hxs⟩ := hX.at_ (by intro e; rw [e] at hxn; simp at hxn; omega)
    rw [hxn] at hxs
    have HXs := hid hxs
    have k1 := hxs (xn - 1) (by omega)
    have k0 := hxs 0 (by omega)
    simp only [Nat.add_zero] at k0
    have K := in_any ra rn rc (ci R) (X.getD 0 0) w hR (by rw [ci_len]; exact hrn) hrb
    have hlen : ((xn : Int) - 1) = ((xn - 1 : Nat) : Int) := by omega
    have HLa : Hid (X.getD (X.length - 1) 0 = X.getD (xn - 1) 0) := by show _ = _; rw [hxn]
    have hx0 : (0 : Int) < xn := by omega
    have hxe : ((xn : Int) == 0) = false := by simp; omega
    clear hN hn hR hrn hX hxn hxs
    by_cases hl : X.getD (xn - 1) 0 = (tg : Int)
    · rw [hl] at k1
      have HL := hid hl
      clear hl
      cases hb : decide (X.getD 0 0 ∈ ci R)
      · rw [hb] at K
        have HF : Hid (¬ Wx N R X tg X.length) := fun h => of_decide_eq_false hb h.first
        clear hb
        generalize X.getD 0 0 = x0 at *
        go_enter Try.func23, Try.ntmps23
        go_wp2_with (go_at_call 24; refine met K ?_)
        go_ret
        exact ⟨false, rfl, Ext.refl _ _, by simpa using HF.out⟩
      · rw [hb] at K
        have HW : Hid (Wx N R X tg 1) := ⟨by rw [HXn.out]; omega, by rw [HXn.out]; exact HL.out, of_decide_eq_true hb, fun i h1 h2 => by omega⟩
        clear hb
        generalize X.getD 0 0 = x0 at k0 K
        go_enter Try.func23, Try.ntmps23
        go_wp2_with (go_at_call 24; refine met K ?_)
        clear K k0 k1
        go_loopg [9] (xn - 1) (fun q u wr => ∃ i : Nat, 1 ≤ i ∧ i + q = xn ∧ u = .int .i64 i ∧ Ext [] w wr ∧ Wx N R X tg i)
        case atStart => exact ⟨1, Nat.le_refl _, by omega, rfl, Ext.refl _ _, HW.out⟩
        case round =>
          clear HW
          obtain ⟨i, hi1, hiq, rfl, hE, hW⟩ := hrel
          have HE := hid hE
          have HW := hid hW
          clear hE hW
          cases gk with
          | zero =>
            obtain rfl : i = xn := by omega
            go_wp2_with fail
            go_ret
            exact ⟨true, rfl, HE.out, by simp only [true_iff]; rw [HXn.out]; exact HW.out⟩
          | succ q =>
            have hix : i < xn := by omega
            have k1 := HE.out.cell (HXs.out (i - 1) (by omega)) (by simp)
            have k2 := HE.out.cell (HXs.out i hix) (by simp)
            have hi1' : ((i : Int) - 1) = ((i - 1 : Nat) : Int) := by omega
            have hwi : IntKind.i64.wrap ((i - 1 : Nat) : Int) = ((i - 1 : Nat) : Int) := by rw [IntKind.wrap_i64]; omega
            have hii : ((i - 1 : Nat) : Int) < xn := by omega
            have HBad : Hid (¬ (0 ≤ X.getD (i - 1) 0 ∧ X.getD (i - 1) 0 < N.length ∧ X.getD i 0 ∈ ci (nxt N (X.getD (i - 1) 0).toNat)) → ¬ Wx N R X tg X.length) := fun h h2 => h (h2.next i hi1 (by rw [HXn.out]; exact hix))
            have HOk : Hid ((0 ≤ X.getD (i - 1) 0 ∧ X.getD (i - 1) 0 < N.length ∧ X.getD i 0 ∈ ci (nxt N (X.getD (i - 1) 0).toNat)) → Wx N R X tg (i + 1)) := fun h => ⟨HW.out.pos, HW.out.last, HW.out.first, fun j h1 h2 => by
              by_cases e : j = i
              · subst e; exact h
              · exact HW.out.next j h1 (by omega)⟩
            generalize X.getD (i - 1) 0 = p at *
            generalize X.getD i 0 = cu at *
            clear HW
            by_cases hp0 : p < 0
            · have hd : decide (p < 0) = true := by simpa using hp0
              go_wp2_with fail
              go_quiet (fail)
              go_wp2_with fail
              go_ret
              exact ⟨false, rfl, HE.out.trans (Ext.drewN [] _ _), by simpa using HBad.out (fun h => by omega)⟩
            · have hd : decide (p < 0) = false := by simpa using hp0
              by_cases hpn : (n : Int) ≤ p
              · have hd2 : decide ((n : Int) ≤ p) = true := by simpa using hpn
                go_wp2_with fail
                go_quiet (fail)
                go_wp2_with fail
                go_ret
                exact ⟨false, rfl, HE.out.trans (Ext.drewN [] _ _), by simpa using HBad.out (fun h => by have := HNn.out; omega)⟩
              · obtain ⟨y, rfl⟩ : ∃ y : Nat, p = y := ⟨p.toNat, by omega⟩
                have hd2 : decide ((n : Int) ≤ (y : Int)) = false := by simpa using hpn
                have hyn : y < n := by omega
                obtain ⟨nb, no, rfl, hcs⟩ := (HN.out.keep0 HE.out).addr (by rw [cn_len, HNn.out]; omega)
                obtain ⟨fa, fc, hcn, hI, _, hfl⟩ := hcs y (by rw [cn_len, HNn.out]; exact hyn)
                rw [cn_get] at hcn hI hfl
                rw [ci_len] at hcn hfl
                have KI := fun q => in_any fa (nxt N y).length fc (ci (nxt N y)) cu (wr.drewN q) (hI.keep0 (Ext.drewN [] _ _)) (ci_len _) hfl
                have HIf : Hid (decide (cu ∈ ci (nxt N y)) = true ↔ cu ∈ ci (nxt N (y : Int).toNat)) := by
                  show _ ↔ _
                  simp
                generalize decide (cu ∈ ci (nxt N y)) = b2 at *
                generalize (nxt N y).length = lx at *
                clear hcs hI hfl
                cases b2
                · go_wp2_with fail
                  go_quiet (first | (go_at_call 24; refine Calls.quiet_of_same (KI _)))
                  go_wp2_with fail
                  go_ret
                  exact ⟨false, rfl, HE.out.trans (Ext.drewN [] _ _), by simpa using HBad.out (fun h => by have := HIf.out.2 h.2.2; cases this)⟩
                · have HIt := hid (HIf.out.1 rfl)
                  clear HIf
                  go_wp2_with fail
                  go_quiet (first | (go_at_call 24; refine Calls.quiet_of_same (KI _)))
                  go_wp2_with fail
                  go_roundg q
                  case measure => omega
                  case rel => exact ⟨i + 1, by omega, by omega, by go_num, HE.out.trans (Ext.drewN [] _ _), HOk.out ⟨by omega, by have := HNn.out; omega, HIt.out⟩⟩
    · have HF : Hid (¬ Wx N R X tg X.length) := fun h => hl (by rw [← HLa.out]; exact h.last)
      have hb1 : (X.getD (xn - 1) 0 == (tg : Int)) = false := beq_false_of_ne hl
      have hb2 : (X.getD (xn - 1) 0 != (tg : Int)) = true := by simp only [bne, hb1]; rfl
      generalize X.getD (xn - 1) 0 = xl at *
      clear K k0 hl
      go_enter Try.func23, Try.ntmps23
      go_wp2_with fail
      go_ret
      exact ⟨false, rfl, Ext.refl _ _, by simpa using HF.out⟩

end Go.Proofs.Ytfjabjnajcfamaa
