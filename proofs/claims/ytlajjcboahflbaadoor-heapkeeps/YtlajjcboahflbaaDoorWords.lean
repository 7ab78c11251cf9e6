/-
  Load, Store, Read and Write of a heap; no statement is proved here.
-/
import Derived.Test.YtlajjcboahflbaaDoorLook
namespace Go.Proofs.YtlajjcboahflbaaDoor
open Go.RowKit

section
variable {p ox : Nat} {T : TypeId} {cs : Array Value} {F : Nat → Prop} {H : Hs} {ag og : Nat} {V : Value} {sb : Nat → Nat × Nat} {O : List (Option Nat)}

theorem row_ne {w : World} {g k : Nat} {L : List Int} {cs : Array Value} {t : TypeId} (h : Row w g L) (hk : w.heap[k]? = some (.cells cs t (0, 0))) (ht : t ≠ 5) : k ≠ g := by
  rintro rfl
  have := hk.symm.trans h
  simp only [Option.some.injEq, Obj.cells.injEq] at this
  exact ht this.2.1
theorem own_ne_row {w : World} {base : Nat} {e : TypeId} {s n : Nat} {v : Value} {xs : List Value} {cs : Array Value} {k : Nat} {t : TypeId} (h : w.ownsRow base e s v n xs) (hk : w.heap[k]? = some (.cells cs t (0, 0))) (he : t ≠ e) : ∀ b ∈ [k], v.ownBlock ≠ some b := by
  intro b hb
  simp only [List.mem_singleton] at hb
  subst hb
  exact own_ne h hk he

/-- Other bytes. -/
theorem Hm.turn {w w' : World} (h : Hm w p ox T cs F H ag og V sb O) (x : Ext [ag] w w') {B' : List Int} (hl : B'.length = H.B.length) (hr : Row w' ag B') (hb : Bts B') : Hm w' p ox T cs F { H with B := B' } ag og V sb O := by
  have hp : p ≠ ag := row_ne h.bytes h.box.at_ h.ty.1
  have hog : og ≠ ag := row_ne h.bytes h.owners (by decide)
  refine ⟨h.box.keep x (by simpa using hp), h.ty, by rw [show ({ H with B := B' } : Hs).B.length = H.B.length from hl]; exact h.ca, h.co, hr, h.runs.keep x (own_ne_row h.runs h.bytes (by decide)), x.keep h.owners (by simpa using hog), h.olen, h.own, fun y hy => ?_, h.inj, h.fa, h.fo, h.fv, h.fs, h.np, h.ok.bytes hl hb⟩
  have hs := h.spans y hy
  exact hs.keep x (by simpa using row_ne h.bytes hs.box (by decide)) (by simpa using row_ne h.bytes hs.row (by decide))

def ldV (H : Hs) (a : Int) : Value := if witE H a 8 = 0 then .tuple #[.int .u64 (numAt H.B a.toNat 8), .int .i64 0] else .tuple #[.int .u64 0, .int .i64 (witE H a 8)]

theorem Hv.wit {H : Hs} (h : Hv H) {a n : Int} (hw : witE H a n = 0) : ∃ A N : Nat, a = A ∧ n = N ∧ A + N ≤ H.B.length := by
  obtain ⟨hn, k, j, hf, h1⟩ := witE_ok hw
  obtain ⟨hs, h2, h3⟩ := h.hit hf
  have := hs.hi
  have := hs.sz
  have := h.bl
  exact ⟨a.toNat, n.toNat, by omega, by omega, by omega⟩

set_option maxRecDepth 100000 in
theorem hload_any (a : Int) (w : World) (hH : Hm w p ox T cs F H ag og V sb O) : Calls Tryd.prog 23 #[.pointer (some ⟨p, ox, none⟩), .int .i64 a] w (Qt w (ldV H a)) := by
  have K := within_any a 8 w hH
  unfold ldV
  by_cases he : witE H a 8 = 0
  · rw [if_pos he]
    obtain ⟨A, M, rfl, hM, hl⟩ := hH.ok.wit he
    obtain rfl : M = 8 := by omega
    rw [Int.toNat_natCast]
    rw [he] at K
    have K2 := fun m => load_ok A 8 p ag (w.drewN m) H.B (hH.keep0 (Ext.drewN [] w m)).ar hl (.inr (.inr (.inr rfl)))
    clear hH he hl hM
    generalize numAt H.B A 8 = nv at *
    go_enter Tryd.func23, Tryd.ntmps23
    go_wp2_with (first | (go_at_call 35; refine K.mono ?_; clear K; rintro e w1 ⟨rfl, m, rfl⟩) | (go_at_call 50; refine met (K2 _) ?_) | fail "no arm")
    go_ret2
    exact ⟨rfl, _, rfl⟩
  · rw [if_neg he]
    have h2 : (witE H a 8 == 0) = false := by simpa using he
    generalize witE H a 8 = er at *
    clear hH
    go_enter Tryd.func23, Tryd.ntmps23
    go_wp2_with (first | (go_at_call 35; refine K.mono ?_; clear K; rintro e w1 ⟨rfl, m, rfl⟩) | fail "no arm")
    go_ret2
    exact ⟨rfl, _, rfl⟩

/-- Bytes laid into a heap. -/
def putH (H : Hs) (a n : Int) (f : Nat → Int) : Hs := if witE H a n = 0 then { H with B := put H.B a.toNat f n.toNat } else H

theorem hpost_keep {w w' : World} (hH : Hm w p ox T cs F H ag og V sb O) (x : Ext [] w w') (r : Value) : HPost w p ox T cs F H r (.returned r) w' :=
  ⟨rfl, F, ⟨_, _, _, _, _, hH.keep0 x⟩, Fx.of_ext0 x, fun _ h => .inl h⟩

set_option maxRecDepth 100000 in
theorem hstore_any (a v : Int) (hv : 0 ≤ v ∧ v < 18446744073709551616) (w : World) (hH : Hm w p ox T cs F H ag og V sb O) : Calls Tryd.prog 24 #[.pointer (some ⟨p, ox, none⟩), .int .i64 a, .int .u64 v] w (HPost w p ox T cs F (putH H a 8 (byteOf v)) (.int .i64 (witE H a 8))) := by
  have K := within_any a 8 w hH
  unfold putH
  by_cases he : witE H a 8 = 0
  · rw [if_pos he, he]
    obtain ⟨A, M, rfl, hM, hl⟩ := hH.ok.wit he
    obtain rfl : M = 8 := by omega
    rw [Int.toNat_natCast, show Int.toNat 8 = 8 from rfl]
    rw [he] at K
    have K2 := fun m => store_ok A 8 v hv p ag (w.drewN m) H.B (hH.keep0 (Ext.drewN [] w m)).ar hl (.inr (.inr (.inr rfl)))
    have HF : Hid (∀ w', TurnPost ox w p ag (put H.B A (byteOf v) 8) (.returned (.int .i64 0)) w' → HPost w p ox T cs F { H with B := put H.B A (byteOf v) 8 } (.int .i64 0) (.returned (.int .i64 0)) w') := by
      rintro w' ⟨_, hA, hE⟩
      refine ⟨rfl, F, ⟨_, _, _, _, _, hH.turn hE (length_put _ _ _ _) hA.row hA.ok⟩, Fx.of_ext hE (by simpa using .inl (.inr hH.fa)), fun _ h => .inl h⟩
    clear hH he hl hM
    generalize put H.B A (byteOf v) 8 = B' at *
    go_enter Tryd.func24, Tryd.ntmps24
    go_wp2_with (first | (go_at_call 35; refine K.mono ?_; clear K; rintro e w1 ⟨rfl, m, rfl⟩) | (go_at_call 51; refine (K2 _).mono ?_; clear K2; rintro e w2 ⟨rfl, hA, hE⟩) | fail "no arm")
    go_ret
    exact HF.out _ ⟨rfl, hA, (Ext.drewN _ _ _).trans hE⟩
  · rw [if_neg he]
    have h2 : (witE H a 8 == 0) = false := by simpa using he
    generalize witE H a 8 = er at *
    have HH := hid hH
    clear hH
    go_enter Tryd.func24, Tryd.ntmps24
    go_wp2_with (first | (go_at_call 35; refine K.mono ?_; clear K; rintro e w1 ⟨rfl, m, rfl⟩) | fail "no arm")
    go_ret
    exact hpost_keep HH.out (Ext.drewN _ _ _) _

set_option maxRecDepth 100000 in
theorem hwrite_any (a : Int) (sa : Option Addr) (n c : Nat) (xs : List Int) (w : World) (hs : Sl w sa xs) (hn : xs.length = n) (hH : Hm w p ox T cs F H ag og V sb O) : Calls Tryd.prog 16 #[.pointer (some ⟨p, ox, none⟩), .int .i64 a, .slice sa n c] w (HPost w p ox T cs F (putH H a n (fun j => xs.getD j 0)) (.int .i64 (witE H a n))) := by
  have K := within_any a n w hH
  unfold putH
  by_cases he : witE H a n = 0
  · rw [if_pos he, he]
    obtain ⟨A, M, rfl, hM, hl⟩ := hH.ok.wit he
    obtain rfl : M = n := by omega
    rw [Int.toNat_natCast, Int.toNat_natCast]
    rw [he] at K
    have K2 := fun m => write_ok A sa M c xs p ag (w.drewN m) H.B (hH.keep0 (Ext.drewN [] w m)).ar (hs.keep (Ext.drewN [] w m) (by simp)) hn hl
    have HF : Hid (∀ w', TurnPost ox w p ag (put H.B A (fun j => xs.getD j 0) M) (.returned (.int .i64 0)) w' → HPost w p ox T cs F { H with B := put H.B A (fun j => xs.getD j 0) M } (.int .i64 0) (.returned (.int .i64 0)) w') := by
      rintro w' ⟨_, hA, hE⟩
      refine ⟨rfl, F, ⟨_, _, _, _, _, hH.turn hE (length_put _ _ _ _) hA.row hA.ok⟩, Fx.of_ext hE (by simpa using .inl (.inr hH.fa)), fun _ h => .inl h⟩
    clear hH he hs hn hM hl
    generalize put H.B A (fun j => xs.getD j 0) M = B' at *
    go_enter Tryd.func16, Tryd.ntmps16
    go_wp2_with (first | (go_at_call 35; refine K.mono ?_; clear K; rintro e w1 ⟨rfl, m, rfl⟩) | (go_at_call 44; refine (K2 _).mono ?_; clear K2; rintro e w2 ⟨rfl, hA, hE⟩) | fail "no arm")
    go_ret
    exact HF.out _ ⟨rfl, hA, (Ext.drewN _ _ _).trans hE⟩
  · rw [if_neg he]
    have h2 : (witE H a n == 0) = false := by simpa using he
    generalize witE H a n = er at *
    have HH := hid hH
    clear hH
    go_enter Tryd.func16, Tryd.ntmps16
    go_wp2_with (first | (go_at_call 35; refine K.mono ?_; clear K; rintro e w1 ⟨rfl, m, rfl⟩) | fail "no arm")
    go_ret
    exact hpost_keep HH.out (Ext.drewN _ _ _) _

/-- Bytes of their own. -/
def RdPost (w : World) (X : List Int) (er : Int) (e : Ending) (w' : World) : Prop :=
  ∃ a, e = .returned (.tuple #[.slice a X.length X.length, .int .i64 er]) ∧ ((a = none ∧ X = []) ∨ ∃ g, a = some ⟨g, 0, none⟩ ∧ w.heap.size ≤ g ∧ Row w' g X) ∧ Ext [] w w'
def rdX (H : Hs) (a n : Int) : List Int := if witE H a n = 0 then cut H.B a.toNat n.toNat else []

set_option maxRecDepth 100000 in
theorem hread_any (a n : Int) (w : World) (hH : Hm w p ox T cs F H ag og V sb O) : Calls Tryd.prog 13 #[.pointer (some ⟨p, ox, none⟩), .int .i64 a, .int .i64 n] w (RdPost w (rdX H a n) (witE H a n)) := by
  have K := within_any a n w hH
  unfold rdX
  by_cases he : witE H a n = 0
  · rw [if_pos he, he]
    obtain ⟨A, M, rfl, hM, hl⟩ := hH.ok.wit he
    subst hM
    rw [Int.toNat_natCast, Int.toNat_natCast]
    rw [he] at K
    have K2 := fun m => bytes_ok A M p ag (w.drewN m) H.B (hH.keep0 (Ext.drewN [] w m)).ar hl
    have hcl := length_cut H.B A M
    clear hH he hl
    generalize cut H.B A M = X at *
    subst hcl
    go_enter Tryd.func13, Tryd.ntmps13
    go_wp2_with (first | (go_at_call 35; refine K.mono ?_; clear K; rintro e w1 ⟨rfl, m, rfl⟩) | (go_at_call 36; refine (K2 _).mono ?_; clear K2; rintro e w2 ⟨rfl, hA, hE⟩) | fail "no arm")
    go_ret2
    exact ⟨_, rfl, .inr ⟨_, rfl, Nat.le_refl _, hA⟩, (Ext.drewN _ _ _).trans hE⟩
  · rw [if_neg he]
    have h2 : (witE H a n == 0) = false := by simpa using he
    generalize witE H a n = er at *
    clear hH
    go_enter Tryd.func13, Tryd.ntmps13
    go_wp2_with (first | (go_at_call 35; refine K.mono ?_; clear K; rintro e w1 ⟨rfl, m, rfl⟩) | fail "no arm")
    go_ret2
    exact ⟨none, rfl, .inl ⟨rfl, rfl⟩, Ext.drewN _ _ _⟩

end

end Go.Proofs.YtlajjcboahflbaaDoor
