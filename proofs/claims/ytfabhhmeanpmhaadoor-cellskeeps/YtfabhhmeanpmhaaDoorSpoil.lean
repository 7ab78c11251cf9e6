/-
  What is written over: the statement's own spoil; no statement is proved here.
-/
import Derived.Test.YtfabhhmeanpmhaaDoorCx
namespace Go.Proofs.YtfabhhmeanpmhaaDoor
open Go.RowKit

/-- Only blocks with P are turned, and in them no box. -/
structure Spo (P : Nat → Prop) (w w' : World) : Prop where
  os : w'.os = w.os
  tape : w'.tape = w.tape
  output : w'.output = w.output
  size : w.heap.size ≤ w'.heap.size
  out : ∀ k : Nat, k < w.heap.size → ¬ P k → w'.heap[k]? = w.heap[k]?
  row : ∀ (k : Nat) (cs : Array Value), w.heap[k]? = some (Obj.cells cs 49 (0, 0)) → ∃ cs' : Array Value, w'.heap[k]? = some (Obj.cells cs' 49 (0, 0)) ∧ cs'.size = cs.size ∧ ∀ j, j % 4 = 3 → cs'[j]? = cs[j]?
theorem Spo.refl (P : Nat → Prop) (w : World) : Spo P w w := ⟨rfl, rfl, rfl, Nat.le_refl _, fun _ _ _ => rfl, fun _ cs h => ⟨cs, h, rfl, fun _ _ => rfl⟩⟩
theorem Spo.trans {P : Nat → Prop} {a b c : World} (h : Spo P a b) (k : Spo P b c) : Spo P a c :=
  ⟨k.os.trans h.os, k.tape.trans h.tape, k.output.trans h.output, Nat.le_trans h.size k.size, fun i hi hp => (k.out i (Nat.lt_of_lt_of_le hi h.size) hp).trans (h.out i hi hp), fun i cs hi => by
    obtain ⟨c1, x1, x2, x3⟩ := h.row i cs hi
    obtain ⟨c2, y1, y2, y3⟩ := k.row i c1 x1
    exact ⟨c2, y1, y2.trans x2, fun j hj => (y3 j hj).trans (x3 j hj)⟩⟩
theorem Spo.of {P : Nat → Prop} {w w' : World} (h : Ext [] w w') : Spo P w w' :=
  ⟨h.os, h.tape, h.output, h.size, fun k hk _ => h.block k hk (by simp), fun k cs hk => ⟨cs, h.keep hk (by simp), rfl, fun _ _ => rfl⟩⟩
theorem Spo.set {P : Nat → Prop} (w : World) (b j : Nat) (v : Value) (hp : P b) (hj : j % 4 ≠ 3) : Spo P w (w.setCell ⟨b, j, none⟩ v) :=
  ⟨rfl, rfl, rfl, by simp, fun k _ hk => heap_setCell_other w ⟨b, j, none⟩ k v (fun e => hk (e ▸ hp)), fun k cs hk => by
    by_cases e : k = b
    · subst e
      refine ⟨_, heap_setCell_same w k j _ _ v hk, by simp, fun i hi => ?_⟩
      rw [Array.getElem?_setIfInBounds, if_neg (by omega)]
    · exact ⟨cs, (heap_setCell_other w ⟨b, j, none⟩ k v e).trans hk, rfl, fun _ _ => rfl⟩⟩
theorem Spo.ext {P : Nat → Prop} {w w1 w2 : World} (h : Ext [] w w1) (k : Spo P w1 w2) (hp : ∀ b, P b → w.heap.size ≤ b) : Ext [] w w2 :=
  ⟨k.os.trans h.os, k.tape.trans h.tape, k.output.trans h.output, Nat.le_trans h.size k.size, fun i hi _ => (k.out i (Nat.lt_of_lt_of_le hi h.size) (fun q => by have := hp i q; omega)).trans (h.block i hi (by simp))⟩

theorem Cx.move {Q : Nat → Prop} : ∀ {d : Nat} {w w' : World} {a : Option Addr} {l : List Cl}, Cx Q d w a l → (∀ b, b < w.heap.size → Q b → w'.heap[b]? = w.heap[b]?) → Cx Q d w' a l
  | 0, _, _, _, _, h, _ => h
  | d + 1, w, w', a, l, h, e => by
    rcases h with ⟨hl, h | ⟨b, cs, rfl, hp, hr, hz, h⟩⟩
    · exact ⟨hl, .inl h⟩
    · have hb := e b (lt_of_heap hr) hp
      refine ⟨hl, .inr ⟨b, cs, rfl, hp, hb.trans hr, hz, fun i hi => ?_⟩⟩
      obtain ⟨ba, hc, hx⟩ := h i hi
      refine ⟨ba, ⟨?_, ?_, ?_, ?_, hc.cap, hc.n0, hc.t0, hc.s0⟩, hx.move e⟩
      · rw [← hc.c0]; exact World.cell?_of_block hb
      · rw [← hc.c1]; exact World.cell?_of_block hb
      · rw [← hc.c2]; exact World.cell?_of_block hb
      · rw [← hc.c3]; exact World.cell?_of_block hb

/-- The shape that spoil walks through. -/
def Sx (P : Nat → Prop) : Nat → World → Option Addr → Nat → Prop
  | 0, _, _, n => n = 0
  | d + 1, w, a, n => n ≤ 2513169434843 ∧ (n = 0 ∨ ∃ b cs, a = some ⟨b, 0, none⟩ ∧ P b ∧ w.heap[b]? = some (.cells cs 49 (0, 0)) ∧ cs.size = n * 4 ∧ ∀ i, i < n → ∃ ba bn, cs[i * 4 + 3]? = some (.slice ba bn bn) ∧ Sx P d w ba bn)
theorem Sx.spo {P : Nat → Prop} : ∀ {d : Nat} {w w' : World} {a : Option Addr} {n : Nat}, Sx P d w a n → Spo P w w' → Sx P d w' a n
  | 0, _, _, _, _, h, _ => h
  | d + 1, w, w', a, n, h, e => by
    rcases h with ⟨hl, h | ⟨b, cs, rfl, hp, hr, hz, h⟩⟩
    · exact ⟨hl, .inl h⟩
    · obtain ⟨cs', h1, h2, h3⟩ := e.row b cs hr
      refine ⟨hl, .inr ⟨b, cs', rfl, hp, h1, h2.trans hz, fun i hi => ?_⟩⟩
      obtain ⟨ba, bn, hc, hx⟩ := h i hi
      exact ⟨ba, bn, (h3 _ (by omega)).trans hc, hx.spo e⟩
theorem Cx.sx {P : Nat → Prop} : ∀ {d : Nat} {w : World} {a : Option Addr} {l : List Cl}, Cx P d w a l → Sx P d w a l.length
  | 0, _, _, _, h => by rw [h]; rfl
  | d + 1, w, a, l, h => by
    rcases h with ⟨hl, h | ⟨b, cs, rfl, hp, hr, hz, h⟩⟩
    · exact ⟨hl, .inl (by rw [h]; rfl)⟩
    · refine ⟨hl, .inr ⟨b, cs, rfl, hp, hr, hz, fun i hi => ?_⟩⟩
      obtain ⟨ba, hc, hx⟩ := h i hi
      refine ⟨ba, _, ?_, hx.sx⟩
      have := hc.c3
      rwa [cell_of_row _ _ _ _ _ _ hr, Nat.zero_add] at this

def c98 : List Value := [.int .u64 98, .string ⟨#[]⟩, .int .i64 0, .slice none 0 0, .int .u64 97, .string ⟨#[]⟩, .int .i64 0, .slice none 0 0]
/-- append makes a new row where there is no room. -/
theorem app98 (w : World) (a : Option Addr) (n : Nat) (hn : n ≤ 2513169434843) (hS : n = 0 ∨ ∃ b cs, a = some ⟨b, 0, none⟩ ∧ w.heap[b]? = some (.cells cs 49 (0, 0)) ∧ cs.size = n * 4) :
    ∃ cp w3, (Builtin.append_ #[23, 23] 23 #[.slice a n n, .slice (some ⟨w.heap.size, 0, none⟩) 2 2]).run Tryd.prog (w.alloc (.cells #[.int .u64 98, .string ⟨#[]⟩, .int .i64 0, .slice none 0 0, .int .u64 97, .string ⟨#[]⟩, .int .i64 0, .slice none 0 0] 49)) = .ok (.slice (some ⟨w.heap.size + 1, 0, none⟩) (n + 2) cp) w3 ∧ n + 2 ≤ cp ∧
      (∃ v, w3.cell? ⟨w.heap.size + 1, (n + 1) * 4 + 1, none⟩ = some v) ∧ w3.frozen? ⟨w.heap.size + 1, (n + 1) * 4 + 1, none⟩ = false ∧ Ext [] w w3 := by
  obtain ⟨i, hi0, hz0, hz1, hz2⟩ := info_parts info49
  have hA := Ext.alloc [] w (.cells #[.int .u64 98, .string ⟨#[]⟩, .int .i64 0, .slice none 0 0, .int .u64 97, .string ⟨#[]⟩, .int .i64 0, .slice none 0 0] 49)
  have hx := heap_alloc_new w (.cells #[.int .u64 98, .string ⟨#[]⟩, .int .i64 0, .slice none 0 0, .int .u64 97, .string ⟨#[]⟩, .int .i64 0, .slice none 0 0] 49)
  have hs : (w.alloc (.cells #[.int .u64 98, .string ⟨#[]⟩, .int .i64 0, .slice none 0 0, .int .u64 97, .string ⟨#[]⟩, .int .i64 0, .slice none 0 0] 49)).heap.size = w.heap.size + 1 := by simp
  generalize w.alloc (.cells #[.int .u64 98, .string ⟨#[]⟩, .int .i64 0, .slice none 0 0, .int .u64 97, .string ⟨#[]⟩, .int .i64 0, .slice none 0 0] 49) = u at *
  have hnews : ∀ j v, c98[j]? = some v → u.cell? (Addr.add ⟨w.heap.size, 0, none⟩ j) = some v := fun j v hv => by
    rw [Addr.add_lit, cell_of_row _ _ _ _ _ _ hx, Nat.zero_add, ← hv]; simp [c98]
  have fin : ∀ (olds : List Value) (K : Array Value), olds.length = n * 4 → ∀ cp, n + 2 ≤ cp →
      (∃ v, (u.drew.alloc (.cells (olds.toArray ++ c98.toArray ++ K) 49)).cell? ⟨w.heap.size + 1, (n + 1) * 4 + 1, none⟩ = some v) ∧ (u.drew.alloc (.cells (olds.toArray ++ c98.toArray ++ K) 49)).frozen? ⟨w.heap.size + 1, (n + 1) * 4 + 1, none⟩ = false ∧ Ext [] w (u.drew.alloc (.cells (olds.toArray ++ c98.toArray ++ K) 49)) := fun olds K ho cp hcp => by
    have h1 := heap_alloc_new u.drew (.cells (olds.toArray ++ c98.toArray ++ K) 49)
    rw [show u.drew.heap.size = w.heap.size + 1 from hs] at h1
    refine ⟨⟨(olds.toArray ++ c98.toArray ++ K)[(n + 1) * 4 + 1]'(by simp [ho, c98]; omega), ?_⟩, frozen_of_row _ _ _ _ _ h1, (hA.trans (Ext.drew _ _)).trans (Ext.alloc _ _ _)⟩
    rw [cell_of_row _ _ _ _ _ _ h1, Array.getElem?_eq_getElem]
  have hb : Builtin.nextslicecap (n + 2) n ≤ 2 * (n + 2) := nextslicecap_le (by omega)
  have hfit : Builtin.nextslicecap (n + 2) n * i.bytes ≤ 281474976710656 := by rw [hz2]; omega
  have hcap := grownCap_ge u (n + 2) n 49
  have grow : ∀ ad : Addr, ∀ olds : List Value, olds.length = n * 4 → (∀ j v, olds[j]? = some v → u.cell? (ad.add j) = some v) → _ := fun ad olds ho hc =>
    run_append_grow (P := Tryd.prog) u 23 23 49 i _ Tryd.underlying23 hi0 hz0 ad n n olds (by rw [hz1]; exact ho) hc ⟨w.heap.size, 0, none⟩ 2 2 c98 (by rw [hz1]; rfl) hnews (by omega) (by omega) hfit
  rw [hs] at grow
  rcases hS with rfl | ⟨b, cs, rfl, h1, h2⟩
  · cases a with
    | none =>
      have := run_append_nil (P := Tryd.prog) u 23 23 49 i _ Tryd.underlying23 hi0 hz0 ⟨w.heap.size, 0, none⟩ 2 2 c98 (by rw [hz1]; rfl) hnews (by omega) (by omega) (by rw [hz2]; omega)
      rw [hs] at this
      refine ⟨_, _, this, hcap, ?_⟩
      have := fin [] (Builtin.zeroCells (Value.agg #[.int .u64 0, .string ⟨#[]⟩, .int .i64 0, .slice none 0 0]).cells (grownCap u 2 0 49 - 2)) rfl _ hcap
      simpa using this
    | some ad => exact ⟨_, _, grow ad [] rfl (by simp), hcap, fin [] _ rfl _ hcap⟩
  · refine ⟨_, _, grow ⟨b, 0, none⟩ cs.toList (by simpa using h2) (fun j v hv => ?_), hcap, fin _ _ (by simpa using h2) _ hcap⟩
    rw [Addr.add_lit, cell_of_row _ _ _ _ _ _ (hA.keep h1 (by simp)), Nat.zero_add, ← hv]; simp

set_option maxRecDepth 100000 in
set_option maxHeartbeats 2000000 in
theorem spoil_step (P : Nat → Prop) (d : Nat) (a : Option Addr) (n : Nat) (w : World) (hS : Sx P (d + 1) w a n) (ih : n = 0 ∨ ∀ (a : Option Addr) (n : Nat) (w : World), Sx P d w a n → Calls Tryd.prog 26 #[.slice a n n] w (fun e w' => e = .returned (.tuple #[]) ∧ Spo P w w')) :
    Calls Tryd.prog 26 #[.slice a n n] w (fun e w' => e = .returned (.tuple #[]) ∧ Spo P w w') := by
  have HS := hid hS
  have HIH := hid ih
  have hl := hS.1
  clear ih hS
  go_enter Tryd.func26, Tryd.ntmps26
  go_wp2_with fail
  go_loopw [2] (fun u wr => ∃ k : Nat, u = .int .i64 k ∧ k ≤ n ∧ Spo P w wr) (fun u _ => (n - (intOf u)).toNat)
  case atStart => exact ⟨0, rfl, by omega, Spo.refl _ _⟩
  case round =>
    obtain ⟨k, rfl, hk, hE⟩ := hrel
    have HE := hid hE
    clear hE
    by_cases hlt : k < n
    · obtain ⟨_, h0 | ⟨b, cs, rfl, hp, hr, hz, hat⟩⟩ := HS.out.spo HE.out
      · omega
      obtain ⟨ba, bn, hc, hx⟩ := hat k hlt
      have x3 : wr.cell? ⟨b, k * 4 + 3, none⟩ = some (.slice ba bn bn) := by rw [cell_of_row _ _ _ _ _ _ hr]; exact hc
      have K := (HIH.out.resolve_left (by omega)) ba bn wr hx
      have HR := hid (And.intro hr (And.intro hz hp))
      have hkn : (k : Int) < n := by omega
      have hkn2 : k < n := hlt
      clear hat hc hx hr hz hp
      go_wp2_with (first | (go_at_call 26; refine K.mono ?_; clear K; rintro e w2 ⟨rfl, hE2⟩; obtain ⟨cs2, r1, r2, _⟩ := hE2.row b cs HR.out.1; have y0 : ∃ v, w2.cell? ⟨b, k * 4, none⟩ = some v := ⟨cs2[k * 4]'(by have := HR.out.2.1; omega), by rw [cell_of_row _ _ _ _ _ _ r1, Array.getElem?_eq_getElem]⟩; have y1 : ∃ v, w2.cell? ⟨b, k * 4 + 1, none⟩ = some v := ⟨cs2[k * 4 + 1]'(by have := HR.out.2.1; omega), by rw [cell_of_row _ _ _ _ _ _ r1, Array.getElem?_eq_getElem]⟩; obtain ⟨v0, z0⟩ := y0; obtain ⟨v1, z1⟩ := y1; have f0 : w2.frozen? ⟨b, k * 4, none⟩ = false := frozen_of_row _ _ _ _ _ r1; have f1 : w2.frozen? ⟨b, k * 4 + 1, none⟩ = false := frozen_of_row _ _ _ _ _ r1; have HE2 := hid (HE.out.trans hE2); clear hE2 r1 r2))
      go_roundw
      case rel => exact ⟨k + 1, by go_num, by omega, (HE2.out.trans (Spo.set _ _ _ _ HR.out.2.2 (by omega))).trans (Spo.set _ _ _ _ HR.out.2.2 (by omega))⟩
      case measure => simp [intOf]; omega
    · obtain rfl : k = n := by omega
      have hkn : ¬ ((k : Int) < k) := by omega
      obtain ⟨cp, w3, hr3, hcp, ⟨vv, hv⟩, hf, hE3⟩ := app98 wr a k hl (by
        rcases (HS.out.spo HE.out).2 with h | ⟨b, cs, h1, _, h2, h3, _⟩
        · exact .inl h
        · exact .inr ⟨b, cs, h1, h2, h3⟩)
      have HS3 := hid hE3
      have e1 : IntKind.wrap .i64 (((k : Int) + 2) - 1) = (k : Int) + 1 := by rw [IntKind.wrap_i64]; omega
      clear hE3
      go_wp2_with (first | (at_builtin; refine wpList_append_run rfl _ _ 23 rfl _ _ _ rfl rfl hr3 ?_))
      go_end0
      exact ⟨rfl, HE.out.trans (Spo.of (HS3.out.on (Ext.setCell [wr.heap.size + 1] _ _ _ (by simp)) (by simp)))⟩

theorem spoil_any (P : Nat → Prop) : ∀ (d : Nat) (a : Option Addr) (n : Nat) (w : World), Sx P d w a n → Calls Tryd.prog 26 #[.slice a n n] w (fun e w' => e = .returned (.tuple #[]) ∧ Spo P w w')
  | 0, a, n, w, h => spoil_step P 0 a n w ⟨by rw [h]; omega, .inl h⟩ (.inl h)
  | d + 1, a, n, w, h => spoil_step P d a n w h (.inr (spoil_any P d))

end Go.Proofs.YtfabhhmeanpmhaaDoor
