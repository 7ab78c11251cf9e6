/-
  Values as trees of cells, how they lie in memory, and how large they are; no statement is proved here.
-/
import Derived.Test.YtfabhhmeanpmhaaDoorParts
namespace Go.Proofs.YtfabhhmeanpmhaaDoor
open Go.RowKit

inductive Cl where
  | mk (n : Int) (s : ByteArray) (t : Int) (box : List Cl)

def Cl.n : Cl → Int | .mk n _ _ _ => n
def Cl.s : Cl → ByteArray | .mk _ s _ _ => s
def Cl.t : Cl → Int | .mk _ _ t _ => t
def Cl.box : Cl → List Cl | .mk _ _ _ b => b
theorem Cl.eta (c : Cl) : c = .mk c.n c.s c.t c.box := by cases c; rfl
theorem Cl.ext_iff {c d : Cl} : c = d ↔ c.n = d.n ∧ c.s = d.s ∧ c.t = d.t ∧ c.box = d.box := by
  cases c; cases d; simp [Cl.n, Cl.s, Cl.t, Cl.box]

def zeroCl : Cl := .mk 0 ⟨#[]⟩ 0 []
def cAt (l : List Cl) (i : Nat) : Cl := l.getD i zeroCl
theorem cAt_get {l : List Cl} {i : Nat} (h : i < l.length) : cAt l i = l[i] := by simp [cAt, h]
theorem cAt_mem {l : List Cl} {i : Nat} (h : i < l.length) : cAt l i ∈ l := by rw [cAt_get h]; exact List.getElem_mem h

mutual
def totC : Cl → Nat
  | .mk _ _ _ b => 1 + totL b
def totL : List Cl → Nat
  | [] => 0
  | c :: r => totC c + totL r
end
theorem totC_eq (c : Cl) : totC c = 1 + totL c.box := by cases c; rfl
theorem totL_append : ∀ a b : List Cl, totL (a ++ b) = totL a + totL b
  | [], b => by simp [totL]
  | c :: r, b => by rw [List.cons_append, totL, totL, totL_append r b]; omega
theorem totL_len : ∀ l : List Cl, l.length ≤ totL l
  | [] => by simp
  | c :: r => by have := totL_len r; rw [totL, totC_eq]; simp; omega
theorem take_c {l : List Cl} {k : Nat} (h : k < l.length) : l.take (k + 1) = l.take k ++ [cAt l k] := by rw [List.take_succ_eq_append_getElem h, cAt_get h]
theorem totL_take {l : List Cl} {k : Nat} (h : k < l.length) : totL (l.take (k + 1)) = totL (l.take k) + (1 + totL (cAt l k).box) := by
  rw [take_c h, totL_append]; simp [totL, totC_eq]
theorem totL_take_le (l : List Cl) (k : Nat) : totL (l.take k) ≤ totL l := by
  have := totL_append (l.take k) (l.drop k)
  rw [List.take_append_drop] at this; omega

/-- A cell in memory. -/
structure ClAt (w : World) (b o : Nat) (c : Cl) (ba : Option Addr) (bc : Nat) : Prop where
  c0 : w.cell? ⟨b, o, none⟩ = some (.int .u64 c.n)
  c1 : w.cell? ⟨b, o + 1, none⟩ = some (.string c.s)
  c2 : w.cell? ⟨b, o + 2, none⟩ = some (.int .i64 c.t)
  c3 : w.cell? ⟨b, o + 3, none⟩ = some (.slice ba c.box.length bc)
  cap : c.box.length ≤ bc
  n0 : 0 ≤ c.n ∧ c.n < 18446744073709551616
  t0 : -9223372036854775808 ≤ c.t ∧ c.t < 9223372036854775808
  s0 : c.s.size ≤ 140737488351232
theorem ClAt.keep0 {w w' : World} {b o : Nat} {c : Cl} {ba : Option Addr} {bc : Nat} (h : ClAt w b o c ba bc) (e : Ext [] w w') : ClAt w' b o c ba bc :=
  ⟨e.cell h.c0 (by simp), e.cell h.c1 (by simp), e.cell h.c2 (by simp), e.cell h.c3 (by simp), h.cap, h.n0, h.t0, h.s0⟩

/-- A list of cells in memory, with boxes of at most this depth. -/
def Cs : Nat → World → Option Addr → List Cl → Prop
  | 0, _, _, l => l = []
  | d + 1, w, a, l => l.length ≤ 2513169434843 ∧ (l = [] ∨ ∃ b o, a = some ⟨b, o, none⟩ ∧ ∀ i, i < l.length → ∃ ba bc, ClAt w b (o + i * 4) (cAt l i) ba bc ∧ Cs d w ba (cAt l i).box)

theorem Cs.keep0 : ∀ {d : Nat} {w w' : World} {a : Option Addr} {l : List Cl}, Cs d w a l → Ext [] w w' → Cs d w' a l
  | 0, _, _, _, _, h, _ => h
  | d + 1, w, w', a, l, h, e => by
    rcases h with ⟨hl, h | ⟨b, o, rfl, h⟩⟩
    · exact ⟨hl, .inl h⟩
    · refine ⟨hl, .inr ⟨b, o, rfl, fun i hi => ?_⟩⟩
      obtain ⟨ba, bc, hc, hb⟩ := h i hi
      exact ⟨ba, bc, hc.keep0 e, hb.keep0 e⟩
theorem Cs.len {d : Nat} {w : World} {a : Option Addr} {l : List Cl} (h : Cs d w a l) : l.length ≤ 2513169434843 := by
  cases d with
  | zero => rw [h]; simp
  | succ d => exact h.1
theorem Cs.nil (d : Nat) (w : World) (a : Option Addr) : Cs d w a [] := by
  cases d with
  | zero => rfl
  | succ d => exact ⟨by simp, .inl rfl⟩
theorem Cs.at_ {d : Nat} {w : World} {a : Option Addr} {l : List Cl} (h : Cs d w a l) (h0 : 0 < l.length) : ∃ d' b o, d = d' + 1 ∧ a = some ⟨b, o, none⟩ ∧ ∀ i, i < l.length → ∃ ba bc, ClAt w b (o + i * 4) (cAt l i) ba bc ∧ Cs d' w ba (cAt l i).box := by
  cases d with
  | zero => rw [h] at h0; simp at h0
  | succ d =>
    rcases h with ⟨_, rfl | ⟨b, o, rfl, h⟩⟩
    · simp at h0
    · exact ⟨d, b, o, rfl, rfl, h⟩
theorem Cs.mono : ∀ {d e : Nat} {w : World} {a : Option Addr} {l : List Cl}, Cs d w a l → d ≤ e → Cs e w a l
  | 0, e, w, a, l, h, _ => by rw [show l = [] from h]; exact Cs.nil e w a
  | d + 1, e, w, a, l, h, he => by
    obtain ⟨e, rfl⟩ : ∃ e', e = e' + 1 := ⟨e - 1, by omega⟩
    rcases h with ⟨hl, h | ⟨b, o, rfl, h⟩⟩
    · exact ⟨hl, .inl h⟩
    · refine ⟨hl, .inr ⟨b, o, rfl, fun i hi => ?_⟩⟩
      obtain ⟨ba, bc, hc, hb⟩ := h i hi
      exact ⟨ba, bc, hc, hb.mono (by omega)⟩
theorem cAt_sub {l : List Cl} {p q i : Nat} (hi : i < q - p) : cAt ((l.take q).drop p) i = cAt l (p + i) := by
  simp only [cAt, List.getD]
  rw [List.getElem?_drop, List.getElem?_take, if_pos (by omega)]
theorem Cs.sub {d : Nat} {w : World} {b o : Nat} {l : List Cl} (h : Cs d w (some ⟨b, o, none⟩) l) {p q : Nat} (hp : p ≤ q) (hq : q ≤ l.length) : Cs d w (some ⟨b, o + p * 4, none⟩) ((l.take q).drop p) := by
  have hl : ((l.take q).drop p).length = q - p := by simp; omega
  by_cases h0 : p = q
  · subst h0
    have : (l.take p).drop p = [] := by apply List.length_eq_zero_iff.1; omega
    rw [this]; exact Cs.nil _ _ _
  · obtain ⟨d', b', o', rfl, ha, hc⟩ := h.at_ (by omega)
    cases ha
    refine ⟨by have := h.len; omega, .inr ⟨b, o + p * 4, rfl, fun i hi => ?_⟩⟩
    rw [cAt_sub (by omega)]
    obtain ⟨ba, bc, h1, h2⟩ := hc (p + i) (by omega)
    exact ⟨ba, bc, by rw [show o + p * 4 + i * 4 = o + (p + i) * 4 by omega]; exact h1, h2⟩

/-- The number of cells, counted up to one more than may be. -/
def siz (l : List Cl) : Nat := min (totL l) 257

set_option maxRecDepth 100000 in
set_option maxHeartbeats 4000000 in
theorem count_any : ∀ (d : Nat) (a : Option Addr) (l : List Cl) (n c : Nat) (s : Nat) (w : World), Cs d w a l → l.length = n → s ≤ 257 →
    Calls Tryd.prog 39 #[.slice a n c, .int .i64 s] w fun e w' => e = .returned (.int .i64 (min (s + totL l) 257 : Nat)) ∧ w' = w := by
  intro d
  induction d with
  | zero =>
    intro a l n c s w hC hn hs
    obtain rfl : l = [] := hC
    obtain rfl : n = 0 := by simpa using hn.symm
    have e1 : min (s + totL []) 257 = s := by simp [totL]; omega
    rw [e1]
    have h0 : ¬ ((0 : Int) < 0) := by omega
    go_enter Tryd.func39, Tryd.ntmps39
    go_wp2_with fail
    go_loopw [1, 5] (fun p q wr => p = .int .i64 s ∧ q = .int .i64 0 ∧ wr = w) (fun _ _ _ => 0)
    case atStart => exact ⟨rfl, rfl, rfl⟩
    case round =>
      obtain ⟨rfl, rfl, rfl⟩ := hrel
      go_wp2_with fail
      go_ret
      exact ⟨rfl, rfl⟩
  | succ d ih =>
    intro a l n c s w hC hn hs
    have HC := hid hC
    have HN := hid hn
    have hl := hC.len
    have HIH := hid ih
    clear hC ih
    go_enter Tryd.func39, Tryd.ntmps39
    go_wp2_with fail
    go_loopw [1, 5] (fun p q wr => ∃ k : Nat, p = .int .i64 (min (s + totL (l.take k)) 257 : Nat) ∧ q = .int .i64 k ∧ k ≤ l.length ∧ wr = w) (fun _ q _ => (n - (intOf q)).toNat)
    case atStart => exact ⟨0, by simp [totL]; omega, rfl, by omega, rfl⟩
    case round =>
      obtain ⟨k, rfl, rfl, hk, rfl⟩ := hrel
      obtain ⟨m, hm⟩ : ∃ m, min (s + totL (l.take k)) 257 = m := ⟨_, rfl⟩
      rw [hm]
      have hm2 : m ≤ 257 := by omega
      by_cases hlt : k < l.length
      · obtain ⟨d', b, o, hd, rfl, hat⟩ := HC.out.at_ (by omega)
        obtain rfl : d' = d := by omega
        obtain ⟨ba, bc, hcl, hbx⟩ := hat k hlt
        have hc3 := hcl.c3
        have ht := totL_take hlt
        have hkn : (k : Int) < n := by have := HN.out; omega
        have hkn2 : k < n := by have := HN.out; omega
        by_cases hmc : m = 257
        · have e1 : Hid (min (s + totL l) 257 = 257) := by show _ = _; have := totL_take_le l k; omega
          have e2 : ¬ ((m : Int) ≤ 256) := by omega
          have e3 : decide ((m : Int) ≤ 256) = false := by simpa using e2
          clear hat hcl hbx ht hm hlt
          go_wp2_with fail
          go_ret
          exact ⟨by rw [e1.out]; rfl, rfl⟩
        · have e2 : (m : Int) ≤ 256 := by omega
          have K := HIH.out ba (cAt l k).box _ bc (m + 1) wr hbx rfl (by omega)
          have e4 : Hid (min (m + 1 + totL (cAt l k).box) 257 = min (s + totL (l.take (k + 1))) 257) := by show _ = _; omega
          have e5 : IntKind.wrap .i64 ((m : Int) + 1) = ((m + 1 : Nat) : Int) := by rw [IntKind.wrap_i64]; omega
          generalize (cAt l k).box.length = bn at *
          clear hat hcl hbx ht hm
          go_wp2_with (go_at_call 39; refine met K ?_)
          go_roundw
          case rel => exact ⟨k + 1, by rw [e4.out], by go_num, by omega, trivial⟩
          case measure => simp [intOf]; omega
      · obtain rfl : k = l.length := by omega
        have hkn : ¬ ((l.length : Int) < n) := by have := HN.out; omega
        have hm3 : Hid (min (s + totL l) 257 = m) := by rw [List.take_length] at hm; exact hm
        clear hm hlt
        have hd : decide ((l.length : Int) < n) = false := by simpa using hkn
        go_wp2_with fail
        go_ret
        exact ⟨by rw [hm3.out]; rfl, rfl⟩

theorem rsize_any (d : Nat) (a : Option Addr) (l : List Cl) (n c : Nat) (w : World) (hC : Cs d w a l) (hn : l.length = n) :
    Calls Tryd.prog 19 #[.slice a n c] w fun e w' => e = .returned (.int .i64 (siz l)) ∧ w' = w := by
  have K := count_any d a l n c 0 w hC hn (by omega)
  rw [Nat.zero_add] at K
  have e1 : siz l = min (totL l) 257 := rfl
  rw [e1]
  generalize hx : min (totL l) 257 = x at *
  have e2 : min (x : Int) 257 = x := by omega
  go_enter Tryd.func19, Tryd.ntmps19
  go_wp2_with (go_at_call 39; refine met K ?_)
  go_ret
  exact ⟨rfl, rfl⟩

end Go.Proofs.YtfabhhmeanpmhaaDoor
