/-
  Two graphs side by side, and how many nodes are swept; no statement is proved here.
-/
import Derived.Test.YtfgdoehiocgkhaaOpen
import Derived.Test.YtfgdoehiocgkhaaLive
import Derived.Test.YtfgdoehiocgkhaaIn
namespace Go.Proofs.Ytfgdoehiocgkhaa
open Go.RowKit

theorem mark_len (G : Gs) : (mark G).ns.length = G.ns.length := by
  unfold mark
  split
  · simp
  · split
    · simp
    · rw [sh_len]; simp
theorem swept_le : ∀ (u : Nat) {G : Gs}, Iv G → (work u G).2.1.length ≤ if G.ph = 0 then 0 else if G.ph = 2 then G.en - G.pl else G.ns.length
  | 0, G, _ => by simp [work]
  | u + 1, G, h => by
    by_cases h0 : G.ph = 0
    · rw [work_idle h0]; simp
    · simp only [work, h0, if_false]
      have ih := swept_le u (iv_unit h h0)
      by_cases h1 : G.ph = 1
      · have hu : unit G = (mark G, []) := by simp only [unit, h1, if_true]
        rw [hu] at ih ⊢
        rw [if_neg (by omega)]
        simp only [List.nil_append]
        have hm := iv_mark h h1
        refine Nat.le_trans ih ?_
        split
        · exact Nat.zero_le _
        · split
          · rename_i h2
            have := hm.pe h2
            rw [mark_len] at this
            simp only at *
            omega
          · rw [mark_len]; exact Nat.le_refl _
      · have h2 : G.ph = 2 := by have := h.ph; omega
        have hpe := h.pe h2
        have hu : unit G = sweep G := by simp only [unit, h1, if_false]
        rw [hu] at ih ⊢
        rw [if_pos h2, List.length_append]
        unfold sweep at ih ⊢
        split at ih
        · rename_i e
          rw [if_pos e]
          simp only [if_true] at ih
          simp only [List.length_nil]
          omega
        · rename_i e
          rw [if_neg e]
          split at ih
          · rename_i e4
            rw [if_pos e4]
            simp only [h2] at ih ⊢
            simp only [List.length_singleton]
            try simp at ih
            omega
          · rename_i e4
            rw [if_neg e4]
            simp only [h2] at ih ⊢
            simp only [List.length_nil]
            try simp at ih
            omega
theorem swept_max (u : Nat) {G : Gs} (h : Iv G) : (work u G).2.1.length ≤ 65536 := by
  have h1 := swept_le u h
  have h2 := h.len
  split at h1
  · omega
  · split at h1
    · rename_i q
      have := h.pe q
      omega
    · omega

/-- Two graphs that know nothing of each other. -/
structure Two (w0 w : World) (p1 : Nat) (G1 : Gs) (C1 : Nat → Prop) (p2 : Nat) (G2 : Gs) (C2 : Nat → Prop) : Prop where
  a : Gr w p1 G1 C1
  b : Gr w p2 G2 C2
  la : ∀ k, C1 k → w0.heap.size ≤ k ∧ k < w.heap.size
  lb : ∀ k, C2 k → w0.heap.size ≤ k ∧ k < w.heap.size
  ap : ∀ k, C1 k → ¬ C2 k
  ext : Ext [] w0 w

theorem Two.keep0 {w0 w w' : World} {p1 p2 : Nat} {G1 G2 : Gs} {C1 C2 : Nat → Prop} (h : Two w0 w p1 G1 C1 p2 G2 C2) (x : Ext [] w w') : Two w0 w' p1 G1 C1 p2 G2 C2 :=
  ⟨h.a.keep0 x, h.b.keep0 x, fun k hk => ⟨(h.la k hk).1, Nat.lt_of_lt_of_le (h.la k hk).2 x.size⟩, fun k hk => ⟨(h.lb k hk).1, Nat.lt_of_lt_of_le (h.lb k hk).2 x.size⟩, h.ap, h.ext.trans x⟩
theorem Two.swap {w0 w : World} {p1 p2 : Nat} {G1 G2 : Gs} {C1 C2 : Nat → Prop} (h : Two w0 w p1 G1 C1 p2 G2 C2) : Two w0 w p2 G2 C2 p1 G1 C1 := ⟨h.b, h.a, h.lb, h.la, fun k q r => h.ap k r q, h.ext⟩
/-- A call on the first. -/
theorem Two.op {w0 w w' : World} {p1 p2 : Nat} {G1 G1' G2 : Gs} {C1 C2 C : Nat → Prop} (h : Two w0 w p1 G1 C1 p2 G2 C2) (g : Gr w' p1 G1' C) (hC : ∀ k, C k → Nw C1 w k) (x : Fx C1 w w') : Two w0 w' p1 G1' (fun k => C k ∧ k < w'.heap.size) p2 G2 C2 := by
  refine ⟨g.there, h.b.keep x (fun k q r => h.ap k r q), fun k hk => ⟨?_, hk.2⟩, fun k hk => ⟨(h.lb k hk).1, Nat.lt_of_lt_of_le (h.lb k hk).2 x.size⟩, fun k hk q => ?_, x.on h.ext (fun k hk => (h.la k hk).1)⟩
  · rcases hC k hk.1 with r | r
    · exact (h.la k r).1
    · exact Nat.le_trans h.ext.size r
  · rcases hC k hk.1 with r | r
    · exact h.ap k r q
    · have := (h.lb k q).2; omega
/-- Two graphs, one made behind the other. -/
theorem two_new {w0 w1 w2 : World} {p1 p2 : Nat} {G1 G2 : Gs} (h1 : Gr w1 p1 G1 (fun k => w0.heap.size ≤ k)) (e1 : Ext [] w0 w1) (h2 : Gr w2 p2 G2 (fun k => w1.heap.size ≤ k)) (e2 : Ext [] w1 w2) :
    Two w0 w2 p1 G1 (fun k => w0.heap.size ≤ k ∧ k < w1.heap.size) p2 G2 (fun k => w1.heap.size ≤ k ∧ k < w2.heap.size) :=
  ⟨h1.there.keep0 e2, h2.there, fun k hk => ⟨hk.1, Nat.lt_of_lt_of_le hk.2 e2.size⟩, fun k hk => ⟨Nat.le_trans e1.size hk.1, hk.2⟩, fun k a b => by omega, e1.trans e2⟩

theorem ints_li (l : List Nat) : ints l = (li l).map (Value.int .i64) := by simp [ints, li]
theorem lst_is {w : World} {v : Value} {L : List Int} (h : Lst w v L) : ∃ a c, v = .slice a L.length c ∧ Is w a L := by
  obtain ⟨a, c, rfl, _⟩ := own_slice h
  exact ⟨a, c, rfl, own_vs h⟩

end Go.Proofs.Ytfgdoehiocgkhaa
