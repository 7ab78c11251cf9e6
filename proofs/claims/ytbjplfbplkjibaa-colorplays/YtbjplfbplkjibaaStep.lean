/-
  Both graphs side by side, and a step of ColorPlays; no statement is proved here.
-/
import Derived.Test.YtbjplfbplkjibaaRNode
import Derived.Test.YtbjplfbplkjibaaRStart
import Derived.Test.YtbjplfbplkjibaaRWork
import Derived.Test.YtbjplfbplkjibaaGrown
import Derived.Deep.RegionHeld3
namespace Go.Proofs.Ytbjplfbplkjibaa
open Go.RowKit

structure Pl (w0 W : World) (p q : Nat) (G H : Gs) (C D : Nat → Prop) : Prop where
  a : Gr W p G C
  b : Rg W q H D
  d : ∀ k, C k → ¬ D k
  la : ∀ k, C k → w0.heap.size ≤ k ∧ k < W.heap.size
  lb : ∀ k, D k → w0.heap.size ≤ k ∧ k < W.heap.size
  ext : Ext [] w0 W
def PlE (w0 W : World) (p q : Nat) (G : Gs) : Prop := ∃ C D, Pl w0 W p q G G C D

theorem Pl.keep0 {w0 W W' : World} {p q : Nat} {G H : Gs} {C D : Nat → Prop} (h : Pl w0 W p q G H C D) (x : Ext [] W W') : Pl w0 W' p q G H C D :=
  ⟨h.a.keep0 x, h.b.keep0 x, h.d, fun k hk => ⟨(h.la k hk).1, Nat.lt_of_lt_of_le (h.la k hk).2 x.size⟩, fun k hk => ⟨(h.lb k hk).1, Nat.lt_of_lt_of_le (h.lb k hk).2 x.size⟩, h.ext.trans x⟩
theorem Pl.opA {w0 W W' : World} {p q : Nat} {G H G' : Gs} {C D C' : Nat → Prop} (h : Pl w0 W p q G H C D) (hg : Gr W' p G' C') (hC : ∀ k, C' k → Nw C W k) (x : Fx C W W') : Pl w0 W' p q G' H (fun k => C' k ∧ k < W'.heap.size) D := by
  refine ⟨hg.there, h.b.keep x (fun k hk r => h.d k r hk), fun k hk r => ?_, fun k hk => ⟨?_, hk.2⟩, fun k hk => ⟨(h.lb k hk).1, Nat.lt_of_lt_of_le (h.lb k hk).2 x.size⟩, x.on h.ext (fun k hk => (h.la k hk).1)⟩
  · rcases hC k hk.1 with s | s
    · exact h.d k s r
    · have := (h.lb k r).2; omega
  · rcases hC k hk.1 with s | s
    · exact (h.la k s).1
    · exact Nat.le_trans h.ext.size s
theorem Pl.opB {w0 W W' : World} {p q : Nat} {G H H' : Gs} {C D D' : Nat → Prop} (h : Pl w0 W p q G H C D) (hg : Rg W' q H' D') (hD : ∀ k, D' k → Nw D W k) (x : Fx D W W') : Pl w0 W' p q G H' C (fun k => D' k ∧ k < W'.heap.size) := by
  refine ⟨h.a.keep x (fun k hk r => h.d k hk r), hg.there, fun k hk r => ?_, fun k hk => ⟨(h.la k hk).1, Nat.lt_of_lt_of_le (h.la k hk).2 x.size⟩, fun k hk => ⟨?_, hk.2⟩, x.on h.ext (fun k hk => (h.lb k hk).1)⟩
  · rcases hD k r.1 with s | s
    · exact h.d k hk s
    · have := (h.la k hk).2; omega
  · rcases hD k hk.1 with s | s
    · exact (h.lb k s).1
    · exact Nat.le_trans h.ext.size s

/-- What lies in one block is as it was. -/
def CA (ob : Nat) (W W' : World) : Prop := ∀ o v, W.cell? ⟨ob, o, none⟩ = some v → W'.cell? ⟨ob, o, none⟩ = some v
theorem ca_fx {B : Nat → Prop} {ob : Nat} {W W' : World} (x : Fx B W W') (h : ¬ B ob) : CA ob W W' := fun _ _ hv => x.cell hv h

def StA (w0 : World) (p q ob : Nat) (G1 : Gs) (rA : Value) (fB : Nat) (aB : Array Value) (rB : Value) (W : World) (e : Ending) (w1 : World) : Prop :=
  e = .returned rA ∧ CA ob W w1 ∧ Calls Try.prog fB aB w1 (fun e w2 => e = .returned rB ∧ CA ob w1 w2 ∧ PlE w0 w2 p q G1)

theorem two_calls {w0 w W : World} {p q ob : Nat} {G G1 : Gs} {C D : Nat → Prop} (h : Pl w0 w p q G G C D) (hob : w.heap.size ≤ ob) (hE : Ext [] w W) (fA fB : Nat) (aA aB : Array Value) (rA rB : Value)
    (hA : ∀ W' C', Gr W' p G C' → Calls Try.prog fA aA W' (GPost W' p G1 C' rA)) (hB : ∀ W' D', Rg W' q G D' → Calls Try.prog fB aB W' (RPost W' q G1 D' rB)) :
    Calls Try.prog fA aA W (StA w0 p q ob G1 rA fB aB rB W) := by
  have hW := h.keep0 hE
  refine (hA W C hW.a).mono ?_
  rintro e w1 ⟨rfl, g1, x1⟩
  have h1 := hW.opA g1 (fun _ r => r) x1
  refine ⟨rfl, ca_fx x1 (fun r => by have := (h.la _ r).2; omega), (hB w1 D h1.b).mono ?_⟩
  rintro e w2 ⟨rfl, g2, x2⟩
  exact ⟨rfl, ca_fx x2 (fun r => by have := (h.lb _ r).2; omega), _, _, h1.opB g2 (fun _ r => r) x2⟩

/-- What a step leaves. -/
def SpPost (w0 : World) (p q : Nat) (G : Gs) (e : Ending) (w' : World) : Prop := e = .returned (.bool true) ∧ PlE w0 w' p q G

set_option maxRecDepth 100000 in
set_option maxHeartbeats 4000000 in
theorem step_set (w0 : World) (p q : Nat) (G : Gs) (o : Oq) (ra : Option Addr) (rn rc : Nat) (w : World) (h : PlE w0 w p q G) (hI : Iv G) (hk : o.kd = 1) :
    Calls Try.prog 6 #[.pointer (some ⟨p, 0, none⟩), .pointer (some ⟨q, 0, none⟩), oqv o ra rn rc] w (SpPost w0 p q (opG G o)) := by
  obtain ⟨C, D, hP⟩ := h
  rw [(oq_eq G o).1 hk]
  have HK := hid (fun W (hE : Ext [] w W) => two_calls hP (Nat.le_refl _) hE 14 15 #[.pointer (some ⟨p, 0, none⟩), .int .i64 o.a, .int .i64 o.b, .int .i64 o.c] #[.pointer (some ⟨q, 0, none⟩), .int .i64 o.a, .int .i64 o.b, .int .i64 o.c] _ _ (fun W' C' hg => set_any p G C' o.a o.b o.c W' hg hI) (fun W' D' hg => rset_any q G D' o.a o.b o.c W' hg hI))
  have b1 : (o.kd == 1) = true := by simp [hk]
  have hEa : Ext [] w ((w.alloc (.cells #[.int .i64 o.kd, .int .i64 o.a, .int .i64 o.b, .int .i64 o.c, .slice ra rn rc] 33)).drew) := (Ext.alloc [] w _).trans (Ext.drew [] _)
  have K := HK.out _ hEa
  unfold oqv
  clear hP hI HK hEa hk
  generalize set G o.a o.b o.c = res at *
  go_enter Try.func6, Try.ntmps6
  go_wp2_with fail
  go_region_held3 (fun w' => w'.cell? ⟨w.heap.size, 1, none⟩ = some (.int .i64 o.a) ∧ w'.cell? ⟨w.heap.size, 2, none⟩ = some (.int .i64 o.b) ∧ w'.cell? ⟨w.heap.size, 3, none⟩ = some (.int .i64 o.c))
    (first
      | go_keep
      | exact ⟨ca2 _ _ (ca1 _ _ (by simp)), ca2 _ _ (ca1 _ _ (by simp)), ca2 _ _ (ca1 _ _ (by simp))⟩
      | exact ⟨ca1 _ _ (by simp), ca1 _ _ (by simp), ca1 _ _ (by simp)⟩)
    (first
      | (go_at_call 14; refine K.mono ?_; rintro e w1 ⟨rfl, ca1, KB⟩)
      | (go_at_call 15; refine KB.mono ?_; rintro e w2 ⟨rfl, ca2, hP2⟩)
      | fail "no arm")
  have HP2 := hid hP2
  clear hP2 KB ca1 ca2 K
  have hbe : (res.2 == res.2) = true := by simp
  go_wp2_with fail
  go_ret
  exact ⟨rfl, HP2.out⟩

end Go.Proofs.Ytbjplfbplkjibaa
