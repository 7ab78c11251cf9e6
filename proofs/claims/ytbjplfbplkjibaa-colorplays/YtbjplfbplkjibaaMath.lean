/-
  The collector over nodes as plain data: its calls, what they keep, and how much work a cycle takes; no statement is proved here.
-/
import Derived.Test.YtbjplfbplkjibaaRMath
namespace Go.Proofs.Ytbjplfbplkjibaa

/-- A node: its color (0 none, 1 white, 2 grey, 3 black, 4 dead), its slots, and how many were looked at. -/
structure Nd where
  c : Nat
  s : List Int
  k : Nat

/-- A graph. -/
structure Gs where
  ns : List Nd
  le : Nat
  ln : List Nat
  ph : Nat
  cy : Nat
  pl : Nat
  en : Nat

def nz : Nd := ⟨0, [], 0⟩
def ndAt (l : List Nd) (i : Nat) : Nd := l.getD i nz
theorem ndAt_get {l : List Nd} {i : Nat} (h : i < l.length) : l[i]? = some (ndAt l i) := by simp [ndAt, List.getD, h]
theorem ndAt_mem {l : List Nd} {i : Nat} (h : i < l.length) : ndAt l i ∈ l := by simp [ndAt, List.getD, h]
theorem ndAt_out {l : List Nd} {i : Nat} (h : l.length ≤ i) : ndAt l i = nz := by simp [ndAt, List.getD, h]
theorem ndAt_set {l : List Nd} {i j : Nat} {x : Nd} (h : i < l.length) : ndAt (l.set i x) j = if j = i then x else ndAt l j := by
  by_cases e : j = i
  · subst e; simp [ndAt, List.getD, h]
  · rw [if_neg e]; simp [ndAt, List.getD, List.getElem?_set_ne (Ne.symm e)]
theorem ndAt_map {l : List Nd} {i : Nat} {f : Nd → Nd} (h : i < l.length) : ndAt (l.map f) i = f (ndAt l i) := by simp [ndAt, List.getD, h]
theorem ndAt_snoc {l : List Nd} {x : Nd} {j : Nat} : ndAt (l ++ [x]) j = if j = l.length then x else ndAt l j := by
  by_cases e : j = l.length
  · subst e; simp [ndAt, List.getD]
  · rw [if_neg e]
    by_cases h : j < l.length
    · simp [ndAt, List.getD, List.getElem?_append_left h]
    · rw [ndAt_out (l := l) (by omega), ndAt_out (l := l ++ [x]) (by simp; omega)]

/-- Is a node live? -/
def lvN (G : Gs) (i : Nat) : Prop := (ndAt G.ns i).c ≠ 0 ∧ (ndAt G.ns i).c ≠ 4
instance (G : Gs) (i : Nat) : Decidable (lvN G i) := inferInstanceAs (Decidable (_ ∧ _))
def lvB (G : Gs) (x : Int) : Bool := decide (0 ≤ x ∧ lvN G x.toNat)
theorem lvN_lt {G : Gs} {i : Nat} (h : lvN G i) : i < G.ns.length := by
  by_cases q : i < G.ns.length
  · exact q
  · have := h.1; rw [ndAt_out (by omega)] at this; exact absurd rfl this
theorem lvB_nat (G : Gs) (i : Nat) : lvB G i = decide (lvN G i) := by simp [lvB]

/-- A white node becomes grey. -/
def shN (G : Gs) (i : Nat) : Gs := if (ndAt G.ns i).c = 1 then { G with ns := G.ns.set i ⟨2, (ndAt G.ns i).s, 0⟩, ln := G.ln ++ [i] } else G
def sh (G : Gs) (x : Int) : Gs := if x = -1 then G else shN G x.toNat

/-- The least free number. -/
def fr (G : Gs) : Nat := G.le + (G.ns.drop G.le).findIdx fun x => x.c == 0
def nodeG (G : Gs) (m : Nat) : Gs := if fr G = 65536 then { G with le := fr G } else { G with le := fr G, ns := (if fr G = G.ns.length then G.ns ++ [nz] else G.ns).set (fr G) ⟨3, List.replicate m (-1), 0⟩ }
/-- What Node makes, and its two answers. -/
def node (G : Gs) (x : Int) : Gs × Int × Int := if x < 0 ∨ 8192 < x then (G, 0, 2) else if fr G = 65536 then (nodeG G x.toNat, 0, 7) else (nodeG G x.toNat, fr G, 0)

def putS (H : Gs) (n j : Nat) (x : Int) : Gs := { H with ns := H.ns.set n ⟨(ndAt H.ns n).c, (ndAt H.ns n).s.set j x, (ndAt H.ns n).k⟩ }
def setG (G : Gs) (n j : Nat) (x : Int) : Gs := putS (sh (sh G ((ndAt G.ns n).s.getD j 0)) x) n j x
def set (G : Gs) (n j x : Int) : Gs × Int := if lvB G n = false then (G, 4) else if x ≠ -1 ∧ lvB G x = false then (G, 4) else if j < 0 ∨ ((ndAt G.ns n.toNat).s.length : Int) ≤ j then (G, 5) else (setG G n.toNat j.toNat x, 0)
def shade (G : Gs) (n : Int) : Gs × Int := if lvB G n = false then (G, 4) else (sh G n, 0)
def wh (x : Nd) : Nd := if x.c ≠ 0 ∧ x.c ≠ 4 then ⟨1, x.s, x.k⟩ else x
def start (G : Gs) (R : List Int) : Gs × Int := if G.ph ≠ 0 then (G, 14) else if R.all (lvB G) = false then (G, 4) else (R.foldl sh { G with ph := 1, ns := G.ns.map wh }, 0)

def die (x : Nd) : Nd := if x.c = 1 then ⟨4, [], 0⟩ else x
def mark (G : Gs) : Gs := match G.ln with
  | [] => { G with ns := G.ns.map die, ln := [], ph := 2, pl := 0, en := G.ns.length }
  | x :: t => if (ndAt G.ns x).k = (ndAt G.ns x).s.length then { G with ns := G.ns.set x ⟨3, (ndAt G.ns x).s, (ndAt G.ns x).k⟩, ln := t }
    else sh { G with ns := G.ns.set x ⟨(ndAt G.ns x).c, (ndAt G.ns x).s, (ndAt G.ns x).k + 1⟩ } ((ndAt G.ns x).s.getD (ndAt G.ns x).k 0)
def sweep (G : Gs) : Gs × List Nat := if G.pl = G.en then ({ G with ph := 0, cy := G.cy + 1 }, [])
  else if (ndAt G.ns G.pl).c = 4 then ({ G with ns := G.ns.set G.pl nz, le := min G.le G.pl, pl := G.pl + 1 }, [G.pl])
  else ({ G with pl := G.pl + 1 }, [])
def unit (G : Gs) : Gs × List Nat := if G.ph = 1 then (mark G, []) else sweep G
/-- So many units of work: how many are left, what was swept, and the graph. -/
def work : Nat → Gs → Nat × List Nat × Gs
  | 0, G => (0, [], G)
  | u + 1, G => if G.ph = 0 then (u + 1, [], G) else ((work u (unit G).1).1, (unit G).2 ++ (work u (unit G).1).2.1, (work u (unit G).1).2.2)

theorem work_idle {G : Gs} (h : G.ph = 0) : ∀ u, work u G = (u, [], G)
  | 0 => rfl
  | u + 1 => by simp [work, h]
/-- Work in pieces. -/
theorem work_add : ∀ (a b : Nat) (G : Gs), work (a + b) G = ((work a G).1 + (work b (work a G).2.2).1, (work a G).2.1 ++ (work b (work a G).2.2).2.1, (work b (work a G).2.2).2.2)
  | 0, b, G => by simp [work]
  | a + 1, b, G => by
    by_cases h : G.ph = 0
    · rw [work_idle h, work_idle h, work_idle h]; simp
    · rw [show a + 1 + b = (a + b) + 1 by omega]
      simp only [work, h, if_false]
      rw [work_add a b]
      simp
theorem work_left : ∀ (a : Nat) (G : Gs), (work a G).1 ≤ a
  | 0, G => by simp [work]
  | a + 1, G => by
    by_cases h : G.ph = 0
    · rw [work_idle h]; exact Nat.le_refl _
    · simp only [work, h, if_false]; have := work_left a (unit G).1; omega

/-- All live nodes, rising. -/
def lives (G : Gs) : List Nat := (List.range G.ns.length).filter fun i => decide (lvN G i)
theorem mem_lives {G : Gs} {i : Nat} : i ∈ lives G ↔ lvN G i := by
  simp only [lives, List.mem_filter, List.mem_range, decide_eq_true_eq]
  exact ⟨fun h => h.2, fun h => ⟨lvN_lt h, h⟩⟩

/-! ### what always holds -/

structure Iv (G : Gs) : Prop where
  len : G.ns.length ≤ 65536
  col : ∀ i, (ndAt G.ns i).c ≤ 4
  sl : ∀ i, (ndAt G.ns i).s.length ≤ 8192
  lo : ∀ i, (ndAt G.ns i).k ≤ (ndAt G.ns i).s.length
  no : ∀ i, (ndAt G.ns i).c = 0 ∨ (ndAt G.ns i).c = 4 → (ndAt G.ns i).s = []
  cl : ∀ i, lvN G i → ∀ x ∈ (ndAt G.ns i).s, x = -1 ∨ lvB G x = true
  ph : G.ph ≤ 2
  idle : G.ph ≠ 1 → G.ln = [] ∧ ∀ i, (ndAt G.ns i).c ≠ 1 ∧ (ndAt G.ns i).c ≠ 2
  grey : ∀ i, (ndAt G.ns i).c = 2 ↔ i ∈ G.ln
  nd : G.ln.Nodup
  tri : ∀ i, (ndAt G.ns i).c = 3 → ∀ x ∈ (ndAt G.ns i).s, x = -1 ∨ (ndAt G.ns x.toNat).c ≠ 1
  trg : ∀ i, (ndAt G.ns i).c = 2 → ∀ x ∈ (ndAt G.ns i).s.take (ndAt G.ns i).k, x = -1 ∨ (ndAt G.ns x.toNat).c ≠ 1
  pe : G.ph = 2 → G.pl ≤ G.en ∧ G.en ≤ G.ns.length
  le : G.le ≤ G.ns.length
  les : ∀ i, i < G.le → (ndAt G.ns i).c ≠ 0

theorem lvB_iff {G : Gs} {x : Int} : lvB G x = true ↔ 0 ≤ x ∧ lvN G x.toNat := by simp [lvB]
theorem Iv.lln {G : Gs} (h : Iv G) : G.ln.length ≤ G.ns.length := by
  have hlt : ∀ x ∈ G.ln, x < G.ns.length := fun x hx => lvN_lt (G := G) ⟨by rw [(h.grey x).2 hx]; decide, by rw [(h.grey x).2 hx]; decide⟩
  have h1 : ∀ (l : List Nat) (n : Nat), l.Nodup → (∀ x ∈ l, x < n) → l.length ≤ n := by
    intro l n
    induction n generalizing l with
    | zero =>
      intro _ hl
      cases l with
      | nil => simp
      | cons a l => have := hl a (by simp); omega
    | succ n ih =>
      intro hn hl
      have h2 := ih (l.erase n) (hn.erase n) (fun x hx => by
        have h3 := (List.Nodup.mem_erase_iff hn).1 hx
        have := hl x h3.2
        have := h3.1
        omega)
      have h4 := List.length_erase (a := n) (l := l)
      split at h4 <;> omega
  exact h1 _ _ h.nd hlt

theorem iv_new : Iv ⟨[], 0, [], 0, 0, 0, 0⟩ := by
  have hz : ∀ i, ndAt ([] : List Nd) i = nz := fun i => ndAt_out (by simp)
  refine ⟨by simp, ?_, ?_, ?_, ?_, ?_, by simp, ?_, ?_, by simp, ?_, ?_, by simp, by simp, by simp⟩ <;> simp [hz, nz, lvN]

end Go.Proofs.Ytbjplfbplkjibaa
