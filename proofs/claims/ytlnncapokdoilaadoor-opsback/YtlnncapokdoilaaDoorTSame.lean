/-
  The reference's comparisons, where what is compared is the same; no statement is proved here.
-/
import Derived.Test.YtlnncapokdoilaaDoorCopy
import Derived.Deep.RegionHeld3
namespace Go.Proofs.YtlnncapokdoilaaDoor
open Go.RowKit

theorem sameInts_true (a b : Option Addr) (n c d : Nat) (xs : List Int) (w : World) (ha : Is w a xs) (hb : Is w b xs) (hn : xs.length = n) (hm : n ≤ 17592186044416) :
    Calls Tryd.prog 41 #[.slice a n c, .slice b n d] w (SayPost w (.bool true)) := by
  by_cases h0 : n = 0
  · subst h0
    go_enter Tryd.func41, Tryd.ntmps41
    go_wp2
    go_loop [5] (fun q => q = .int .i64 0) (fun _ => 0)
    case atStart => rfl
    case round =>
      subst hrel
      go_wp2
      go_ret
      exact ⟨rfl, Ext.refl _ _⟩
  · have hne : xs ≠ [] := by rintro rfl; simp at hn; omega
    obtain ⟨b1, o1, rfl, hc1⟩ := ha.at_ hne
    obtain ⟨b2, o2, rfl, hc2⟩ := hb.at_ hne
    rw [hn] at hc1 hc2
    have H1 := hid hc1
    have H2 := hid hc2
    clear hc1 hc2 ha hb hn hne
    go_enter Tryd.func41, Tryd.ntmps41
    go_wp2
    go_loopw [5] (fun q wr => ∃ k m : Nat, q = .int .i64 k ∧ k ≤ n ∧ wr = w.drewN m) (fun q _ => (n - (intOf q)).toNat)
    case atStart => exact ⟨0, 0, rfl, Nat.zero_le _, rfl⟩
    case round =>
      obtain ⟨k, m, rfl, hk, rfl⟩ := hrel
      by_cases hkn : k < n
      · have hx := H1.out k hkn
        have hy := H2.out k hkn
        generalize xs.getD k 0 = x at *
        go_wp2
        go_quiet (fail)
        go_wp2
        go_roundw
        case rel => exact ⟨k + 1, _, by go_num, by omega, rfl⟩
        case measure => simp [intOf]; omega
      · go_wp2
        go_ret
        exact ⟨rfl, Ext.drewN _ _ _⟩

set_option maxRecDepth 100000 in
theorem sameType_true (t : Ty) (fa fb : Option Addr) (fc fd : Nat) (w : World) (ha : FOk w t fa) (hb : FOk w t fb) :
    Calls Tryd.prog 29 #[tyVal t fa fc, tyVal t fb fd] w (SayPost w (.bool true)) := by
  have HK : Hid (∀ W, Ext [] w W → Calls Tryd.prog 41 #[.slice fa t.fields.length fc, .slice fb t.fields.length fd] W (SayPost W (.bool true))) := fun W h => sameInts_true fa fb _ fc fd t.fields W (ha.1.keep0 h) (hb.1.keep0 h) rfl ha.2
  clear ha hb
  unfold tyVal
  go_enter Tryd.func29, Tryd.ntmps29
  go_wp2_with fail
  refine (HK.out _ ((Ext.alloc [] _ _).trans (Ext.alloc [] _ _))).mono ?_
  rintro e w1 ⟨rfl, hE1⟩
  have HE1 := hid (((Ext.alloc [] _ _).trans (Ext.alloc [] _ _)).trans hE1)
  clear hE1 HK
  go_wp2_with fail
  go_ret
  exact ⟨rfl, HE1.out⟩

def cells5 (w : World) (b o : Nat) (t : Ty) (fa : Option Addr) (fc : Nat) : Prop := w.cell? ⟨b, o, none⟩ = some (.int .i64 t.kind) ∧ w.cell? ⟨b, o + 1, none⟩ = some (.int .i64 t.elem) ∧ w.cell? ⟨b, o + 2, none⟩ = some (.int .i64 t.key) ∧ w.cell? ⟨b, o + 3, none⟩ = some (.int .i64 t.len) ∧ w.cell? ⟨b, o + 4, none⟩ = some (.slice fa t.fields.length fc)
theorem cells5.keep {w w' : World} {b o : Nat} {t : Ty} {fa : Option Addr} {fc : Nat} (h : cells5 w b o t fa fc) (e : Ext [] w w') : cells5 w' b o t fa fc :=
  ⟨e.cell h.1 (by simp), e.cell h.2.1 (by simp), e.cell h.2.2.1 (by simp), e.cell h.2.2.2.1 (by simp), e.cell h.2.2.2.2 (by simp)⟩

set_option maxRecDepth 100000 in
set_option maxHeartbeats 1000000 in
theorem tsame_true (a b : Option Addr) (n c d : Nat) (ts : List Ty) (w : World) (ha : Tab w a ts) (hb : Tab w b ts) (hn : ts.length = n) :
    Calls Tryd.prog 16 #[.slice a n c, .slice b n d] w (SayPost w (.bool true)) := by
  have hln := ha.len
  rw [hn] at hln
  by_cases h0 : n = 0
  · subst h0
    go_enter Tryd.func16, Tryd.ntmps16
    go_wp2
    go_loop [5] (fun q => q = .int .i64 0) (fun _ => 0)
    case atStart => rfl
    case round =>
      subst hrel
      go_wp2
      go_ret
      exact ⟨rfl, Ext.refl _ _⟩
  · obtain ⟨b1, o1, rfl, hc1⟩ := ha.addr (by omega)
    obtain ⟨b2, o2, rfl, hc2⟩ := hb.addr (by omega)
    rw [hn] at hc1 hc2
    have H1 := hid hc1
    have H2 := hid hc2
    clear hc1 hc2 ha hb hn
    go_enter Tryd.func16, Tryd.ntmps16
    go_wp2
    go_loopw [5] (fun q wr => ∃ k : Nat, q = .int .i64 k ∧ k ≤ n ∧ Ext [] w wr) (fun q _ => (n - (intOf q)).toNat)
    case atStart => exact ⟨0, rfl, Nat.zero_le _, Ext.refl _ _⟩
    case round =>
      obtain ⟨k, rfl, hk, hE⟩ := hrel
      have HE := hid hE
      clear hE
      by_cases hkn : k < n
      · obtain ⟨fa, fc, ht1⟩ := H1.out k hkn
        obtain ⟨fb, fd, ht2⟩ := H2.out k hkn
        have q1 : cells5 wr b1 (o1 + k * 5) (tyAt ts k) fa fc := cells5.keep ⟨ht1.c0, ht1.c1, ht1.c2, ht1.c3, ht1.c4⟩ HE.out
        have q2 : cells5 wr b2 (o2 + k * 5) (tyAt ts k) fb fd := cells5.keep ⟨ht2.c0, ht2.c1, ht2.c2, ht2.c3, ht2.c4⟩ HE.out
        have HK : Hid (∀ W, Ext [] wr W → Calls Tryd.prog 29 #[tyVal (tyAt ts k) fa fc, tyVal (tyAt ts k) fb fd] W (SayPost W (.bool true))) := fun W h => sameType_true (tyAt ts k) fa fb fc fd W (ht1.f.keep0 (HE.out.trans h)) (ht2.f.keep0 (HE.out.trans h))
        have HQ : Hid (∀ W, Ext [] wr W → cells5 W b1 (o1 + k * 5) (tyAt ts k) fa fc ∧ cells5 W b2 (o2 + k * 5) (tyAt ts k) fb fd) := fun W h => ⟨q1.keep h, q2.keep h⟩
        generalize tyAt ts k = t at *
        clear ht1 ht2
        obtain ⟨q10, q11, q12, q13, q14⟩ := q1
        obtain ⟨q20, q21, q22, q23, q24⟩ := q2
        go_wp2_with fail
        go_region_held3 (fun w' => (w'.cell? ⟨b1, o1 + k * 5, none⟩ = some (.int .i64 t.kind) ∧ w'.cell? ⟨b1, o1 + k * 5 + 1, none⟩ = some (.int .i64 t.elem) ∧ w'.cell? ⟨b1, o1 + k * 5 + 2, none⟩ = some (.int .i64 t.key) ∧ w'.cell? ⟨b1, o1 + k * 5 + 3, none⟩ = some (.int .i64 t.len) ∧ w'.cell? ⟨b1, o1 + k * 5 + 4, none⟩ = some (.slice fa t.fields.length fc)) ∧ (w'.cell? ⟨b2, o2 + k * 5, none⟩ = some (.int .i64 t.kind) ∧ w'.cell? ⟨b2, o2 + k * 5 + 1, none⟩ = some (.int .i64 t.elem) ∧ w'.cell? ⟨b2, o2 + k * 5 + 2, none⟩ = some (.int .i64 t.key) ∧ w'.cell? ⟨b2, o2 + k * 5 + 3, none⟩ = some (.int .i64 t.len) ∧ w'.cell? ⟨b2, o2 + k * 5 + 4, none⟩ = some (.slice fb t.fields.length fd)))
          (first | exact HQ.out _ hX5 | exact HQ.out _ (Ext.drew [] _))
          (first | (go_at_call 29; refine (HK.out _ (Ext.drew [] _)).mono ?_; rintro e w5 ⟨rfl, hE5⟩; have hX5 : Ext [] wr w5 := (Ext.drew [] _).trans hE5))
        all_goals
          have HX5 := hid (HE.out.trans hX5)
          clear hX5
          go_wp2_with fail
          go_roundw
          case rel => exact ⟨k + 1, by go_num, by omega, HX5.out⟩
          case measure => simp [intOf]; omega
      · go_wp2
        go_ret
        exact ⟨rfl, HE.out⟩

end Go.Proofs.YtlnncapokdoilaaDoor
