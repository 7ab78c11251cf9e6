/-
  The program's Size: the cells of a list and of all boxes within it, up to one more than may be; no statement is proved here.
-/
import Derived.Test.YtfabhhmeanpmhaaDoorCell
import Derived.Laws.EntriesVeiled
namespace Go.Proofs.YtfabhhmeanpmhaaDoor
open Go.RowKit

/-- The two variables of Size. -/
structure Sz (w0 w : World) (sb cb : Nat) (s : Nat) : Prop where
  ext : Ext [] w0 w
  hs : w.heap[sb]? = some (.cells #[.int .i64 s] 3 (0, 0))
  hc : w.heap[cb]? = some (.cells #[.func (.func 38) #[] #[.pointer (some ⟨sb, 0, none⟩), .pointer (some ⟨cb, 0, none⟩)]] 50 (0, 0))
  s0 : w0.heap.size ≤ sb
  c0 : w0.heap.size ≤ cb
theorem Sz.cs {w0 w : World} {sb cb s : Nat} (h : Sz w0 w sb cb s) : w.cell? ⟨sb, 0, none⟩ = some (.int .i64 s) := by rw [cell_of_row _ _ _ _ _ _ h.hs]; rfl
theorem Sz.cc {w0 w : World} {sb cb s : Nat} (h : Sz w0 w sb cb s) : w.cell? ⟨cb, 0, none⟩ = some (.func (.func 38) #[] #[.pointer (some ⟨sb, 0, none⟩), .pointer (some ⟨cb, 0, none⟩)]) := by rw [cell_of_row _ _ _ _ _ _ h.hc]; rfl
theorem Sz.fr {w0 w : World} {sb cb s : Nat} (h : Sz w0 w sb cb s) : w.frozen? ⟨sb, 0, none⟩ = false := frozen_of_row _ _ _ _ _ h.hs
theorem Sz.ne {w0 w : World} {sb cb s : Nat} (h : Sz w0 w sb cb s) : sb ≠ cb := fun e => by
  have h1 := h.hs
  rw [e, h.hc] at h1
  simp at h1
theorem Sz.alloc {w0 w : World} {sb cb s : Nat} (h : Sz w0 w sb cb s) (o : Obj) : Sz w0 (w.alloc o) sb cb s :=
  ⟨h.ext.trans (Ext.alloc _ _ _), (Ext.alloc [] _ _).keep h.hs (by simp), (Ext.alloc [] _ _).keep h.hc (by simp), h.s0, h.c0⟩
theorem row_set1 {w : World} {q : Nat} {T : TypeId} {v v' : Value} (h : w.heap[q]? = some (.cells #[v] T (0, 0))) : (w.setCell ⟨q, 0, none⟩ v').heap[q]? = some (.cells #[v'] T (0, 0)) := by
  rw [heap_setCell_same w q 0 _ _ _ h]; rfl
theorem Sz.set {w0 w : World} {sb cb s : Nat} (h : Sz w0 w sb cb s) (s' : Nat) : Sz w0 (w.setCell ⟨sb, 0, none⟩ (.int .i64 s')) sb cb s' :=
  ⟨(h.ext).on (Ext.setCell [sb] _ _ _ (by simp)) (by have := h.s0; simpa using this), row_set1 h.hs, (Ext.setCell [sb] _ _ _ (by simp)).keep h.hc (by simpa using h.ne.symm), h.s0, h.c0⟩

theorem totL_drop (l : List Cl) (k : Nat) : totL l = totL (l.take k) + totL (l.drop k) ∧ l.length - k ≤ totL (l.drop k) := by
  have h1 := totL_append (l.take k) (l.drop k)
  rw [List.take_append_drop] at h1
  have h2 := totL_len (l.drop k)
  rw [List.length_drop] at h2
  exact ⟨h1, h2⟩

set_option maxRecDepth 100000 in
set_option maxHeartbeats 4000000 in
theorem count1_any : ∀ (d : Nat) (a : Option Addr) (l : List Cl) (n c s sb cb : Nat) (w0 w : World), Cs d w0 a l → l.length = n → s ≤ 257 → Sz w0 w sb cb s →
    Calls Tryd.prog 38 #[.slice a n c, .pointer (some ⟨sb, 0, none⟩), .pointer (some ⟨cb, 0, none⟩)] w fun e w' => e = .returned (.tuple #[]) ∧ Sz w0 w' sb cb (min (s + totL l) 257) := by
  intro d
  induction d with
  | zero =>
    intro a l n c s sb cb w0 w hC hn hs hZ
    obtain rfl : l = [] := hC
    obtain rfl : n = 0 := by simpa using hn.symm
    have e1 : min (s + totL []) 257 = s := by simp [totL]; omega
    rw [e1]
    have hs2 : (s : Int) ≤ 257 := by omega
    have e2 : IntKind.wrap .i64 (s : Int) = (s : Int) := by rw [IntKind.wrap_i64]; omega
    have c0 := hZ.cs
    have f0 := hZ.fr
    have HZ1 := hid (hZ.set s)
    clear hZ
    go_enter Tryd.func38, Tryd.ntmps38
    go_wp2_with fail
    go_loopw [13] (fun q wr => q = .int .i64 0 ∧ Sz w0 wr sb cb s) (fun _ _ => 0)
    case atStart => exact ⟨rfl, HZ1.out⟩
    case round =>
      obtain ⟨rfl, hZ⟩ := hrel
      have HZ := hid hZ
      clear hZ
      go_wp2_with fail
      go_end0
      exact ⟨rfl, HZ.out⟩
  | succ d ih =>
    intro a l n c s sb cb w0 w hC hn hs hZ
    have HC := hid hC
    have HN := hid hn
    have hl := hC.len
    have HIH := hid ih
    have c0 := hZ.cs
    have f0 := hZ.fr
    have HZ := hid hZ
    clear hC ih hZ
    have e1 : IntKind.wrap .i64 ((s : Int) + n) = (s : Int) + n := by rw [IntKind.wrap_i64]; omega
    by_cases hsn : (s : Int) + n ≤ 257
    · have hZ1 := HZ.out.set (s + n)
      rw [Int.natCast_add] at hZ1
      go_enter Tryd.func38, Tryd.ntmps38
      go_wp2_with fail
      generalize w.setCell ⟨sb, 0, none⟩ (.int .i64 ((s : Int) + (n : Int))) = w1 at *
      have HZ1 := hid hZ1
      clear hZ1 e1 c0 f0 HZ
      go_loopw [13] (fun q wr => ∃ k : Nat, q = .int .i64 k ∧ k ≤ l.length ∧ Sz w0 wr sb cb (min (s + n + (totL (l.take k) - k)) 257)) (fun q _ => (n - (intOf q)).toNat)
      case atStart => exact ⟨0, rfl, by omega, by have := HZ1.out; rw [show min (s + n + (totL (l.take 0) - 0)) 257 = s + n by simp [totL]; omega]; exact this⟩
      case round =>
        obtain ⟨k, rfl, hk, hZk⟩ := hrel
        obtain ⟨m, hm⟩ : ∃ m, min (s + n + (totL (l.take k) - k)) 257 = m := ⟨_, rfl⟩
        rw [hm] at hZk
        have hm2 : m ≤ 257 := by omega
        have hkt : k ≤ totL (l.take k) := by have := totL_len (l.take k); rw [List.length_take] at this; omega
        have htl := totL_drop l k
        by_cases hlt : k < l.length
        · obtain ⟨d', b, o, hd, rfl, hat⟩ := HC.out.at_ (by omega)
          obtain rfl : d' = d := by omega
          obtain ⟨ba, bc, hcl, hbx⟩ := hat k hlt
          have hcl2 := hcl.keep0 hZk.ext
          have x0 := hcl2.c0
          have x1 := hcl2.c1
          have x2 := hcl2.c2
          have x3 := hcl2.c3
          have ht := totL_take hlt
          have hkn : (k : Int) < n := by omega
          have hkn2 : k < n := by omega
          have hZ2 := hZk.alloc (.cells #[.int .u64 (cAt l k).n, .string (cAt l k).s, .int .i64 (cAt l k).t, .slice ba (cAt l k).box.length bc] 49)
          have y0 := hZ2.cs
          have y1 := hZ2.cc
          by_cases hmc : m = 257
          · have e1 : Hid (min (s + totL l) 257 = 257) := by show _ = _; omega
            have e2 : (256 : Int) < (m : Int) := by omega
            have HZ2 := hid hZ2
            clear hat hcl hcl2 hbx ht hm hlt hZ2 hZk htl
            go_wp2_with fail
            refine bodyPost_ret (results_none rfl _ _ _) rfl ?_
            exact ⟨rfl, by rw [e1.out, ← hmc]; exact HZ2.out⟩
          · have e2 : ¬ ((256 : Int) < (m : Int)) := by omega
            have K := HIH.out ba (cAt l k).box _ bc m sb cb w0 _ hbx rfl (by omega) hZ2
            have e4 : Hid (min (m + totL (cAt l k).box) 257 = min (s + n + (totL (l.take (k + 1)) - (k + 1))) 257) := by show _ = _; omega
            clear hat hcl hcl2 hbx ht hm hZ2 hZk htl
            go_wp2_with (go_at_call 38; refine K.mono ?_; rintro e w3 ⟨rfl, hZ3⟩)
            go_roundw
            case rel => exact ⟨k + 1, by go_num, by omega, by rw [← e4.out]; exact hZ3⟩
            case measure => simp [intOf]; omega
        · obtain rfl : k = l.length := by omega
          have hkn : ¬ ((l.length : Int) < n) := by have := HN.out; omega
          have e1 : Hid (min (s + totL l) 257 = m) := by show _ = _; rw [List.take_length] at *; omega
          have HZk := hid hZk
          clear hm hlt hZk htl hkt
          go_wp2_with fail
          go_end0
          exact ⟨rfl, by rw [e1.out]; exact HZk.out⟩
    · have hZ1 : Sz w0 (w.setCell ⟨sb, 0, none⟩ (.int .i64 257)) sb cb 257 := HZ.out.set 257
      go_enter Tryd.func38, Tryd.ntmps38
      go_wp2_with fail
      generalize w.setCell ⟨sb, 0, none⟩ (.int .i64 257) = w1 at *
      have HZ1 := hid hZ1
      clear hZ1 e1 c0 f0 HZ
      go_loopw [13] (fun q wr => ∃ k : Nat, q = .int .i64 k ∧ k ≤ l.length ∧ Sz w0 wr sb cb (min (s + n + (totL (l.take k) - k)) 257)) (fun q _ => (n - (intOf q)).toNat)
      case atStart => exact ⟨0, rfl, by omega, by have := HZ1.out; rw [show min (s + n + (totL (l.take 0) - 0)) 257 = 257 by simp [totL]; omega]; exact this⟩
      case round =>
        obtain ⟨k, rfl, hk, hZk⟩ := hrel
        obtain ⟨m, hm⟩ : ∃ m, min (s + n + (totL (l.take k) - k)) 257 = m := ⟨_, rfl⟩
        rw [hm] at hZk
        have hm2 : m ≤ 257 := by omega
        have hkt : k ≤ totL (l.take k) := by have := totL_len (l.take k); rw [List.length_take] at this; omega
        have htl := totL_drop l k
        by_cases hlt : k < l.length
        · obtain ⟨d', b, o, hd, rfl, hat⟩ := HC.out.at_ (by omega)
          obtain rfl : d' = d := by omega
          obtain ⟨ba, bc, hcl, hbx⟩ := hat k hlt
          have hcl2 := hcl.keep0 hZk.ext
          have x0 := hcl2.c0
          have x1 := hcl2.c1
          have x2 := hcl2.c2
          have x3 := hcl2.c3
          have ht := totL_take hlt
          have hkn : (k : Int) < n := by omega
          have hkn2 : k < n := by omega
          have hZ2 := hZk.alloc (.cells #[.int .u64 (cAt l k).n, .string (cAt l k).s, .int .i64 (cAt l k).t, .slice ba (cAt l k).box.length bc] 49)
          have y0 := hZ2.cs
          have y1 := hZ2.cc
          by_cases hmc : m = 257
          · have e1 : Hid (min (s + totL l) 257 = 257) := by show _ = _; omega
            have e2 : (256 : Int) < (m : Int) := by omega
            have HZ2 := hid hZ2
            clear hat hcl hcl2 hbx ht hm hlt hZ2 hZk htl
            go_wp2_with fail
            refine bodyPost_ret (results_none rfl _ _ _) rfl ?_
            exact ⟨rfl, by rw [e1.out, ← hmc]; exact HZ2.out⟩
          · have e2 : ¬ ((256 : Int) < (m : Int)) := by omega
            have K := HIH.out ba (cAt l k).box _ bc m sb cb w0 _ hbx rfl (by omega) hZ2
            have e4 : Hid (min (m + totL (cAt l k).box) 257 = min (s + n + (totL (l.take (k + 1)) - (k + 1))) 257) := by show _ = _; omega
            clear hat hcl hcl2 hbx ht hm hZ2 hZk htl
            go_wp2_with (go_at_call 38; refine K.mono ?_; rintro e w3 ⟨rfl, hZ3⟩)
            go_roundw
            case rel => exact ⟨k + 1, by go_num, by omega, by rw [← e4.out]; exact hZ3⟩
            case measure => simp [intOf]; omega
        · obtain rfl : k = l.length := by omega
          have hkn : ¬ ((l.length : Int) < n) := by have := HN.out; omega
          have e1 : Hid (min (s + totL l) 257 = m) := by show _ = _; rw [List.take_length] at *; omega
          have HZk := hid hZk
          clear hm hlt hZk htl hkt
          go_wp2_with fail
          go_end0
          exact ⟨rfl, by rw [e1.out]; exact HZk.out⟩

set_option maxRecDepth 100000 in
theorem psize_any (d : Nat) (a : Option Addr) (l : List Cl) (n c : Nat) (w : World) (hC : Cs d w a l) (hn : l.length = n) :
    Calls Tryd.prog 18 #[.slice a n c] w (SayPost w (.int .i64 (siz l))) := by
  have hZ : Sz w ((w.alloc (.cells #[.int .i64 0] 3)).alloc (.cells #[.func (.func 38) #[] #[.pointer (some ⟨w.heap.size, 0, none⟩), .pointer (some ⟨w.heap.size + 1, 0, none⟩)]] 50)) w.heap.size (w.heap.size + 1) 0 :=
    ⟨(Ext.alloc [] _ _).trans (Ext.alloc [] _ _), heap_alloc2_old _ _ _, heap_alloc2_new _ _ _, Nat.le_refl _, by omega⟩
  have K := count1_any d a l n c 0 _ _ w _ hC hn (by omega) hZ
  rw [Nat.zero_add] at K
  clear hZ
  go_enter Tryd.func18, Tryd.ntmps18
  go_wp2_with (go_at_call 38; refine K.mono ?_; rintro e w1 ⟨rfl, hZ1⟩; have c0 := hZ1.cs)
  go_ret
  exact ⟨rfl, hZ1.ext⟩

end Go.Proofs.YtfabhhmeanpmhaaDoor
