/-
  A loop that gathers into a boxed slice; no statement is proved here.
-/
import Derived.Test.YtkknadkcpndnaaaDoorSou
namespace Go.Proofs.YtkknadkcpndnaaaDoor
open Go.RowKit Go.Shelf

theorem boxed_inj {W : World} {z : Nat} {t : TypeId} {v v' : Value} (h : Boxed W z t v) (h' : Boxed W z t v') : v = v' := by
  have e : some (Obj.cells #[v] t (0, 0)) = some (Obj.cells #[v'] t (0, 0)) := (show W.heap[z]? = _ from h).symm.trans h'
  cases e; rfl
/-- What such a loop owns: the box at z1, and the row of the slice in it. -/
def Obx (z1 : Nat) (W : World) (k : Nat) : Prop := k = z1 ∨ ∃ v, Boxed W z1 22 v ∧ v.ownBlock = some k
/-- The box at z1 holds the words L in a row of their own; what was there before w1's end is as it was. -/
def Gat (w1 : World) (z1 : Nat) (L : List Nat) (W : World) : Prop := (∃ v, Boxed W z1 22 v ∧ W.ownsRow z1 23 1 v L.length (vw L) ∧ ∀ q, v.ownBlock = some q → z1 < q) ∧ Below z1 w1 W
theorem cal_gat {α : Type} {w1 : World} {z1 B : Nat} (f : List α → List Nat) (h1 : w1.heap.size = z1) (hB : z1 < B) : Cal (Obx z1) (fun pre W => Gat w1 z1 (f pre) W) B := by
  have hbx : ∀ {A C : World} {row : Option Nat} {k : Nat} {o : Obj}, Stp B A C row → A.heap[k]? = some o → o.isCells = true → C.heap[k]? = some o := fun {A C row k o} x hk hc => by
    refine (x.1.block k (lt_of_heap hk) (fun e => ?_)).trans hk
    obtain ⟨o', ho', hc'⟩ := (x.2 k e.symm).2
    rw [hk] at ho'; cases ho'; rw [hc] at hc'; cases hc'
  refine ⟨fun s A C row hs hg hr => ?_, fun s W k hs hO => ?_, fun s A C row k hs x hO => ?_⟩
  · obtain ⟨⟨v, h2, h3, h4⟩, h5⟩ := hs
    have x : Stp B A C row := ⟨hg, hr⟩
    refine ⟨⟨v, hbx x h2 rfl, ?_, h4⟩, h5.trans ⟨hg.os, hg.tape, hg.output, hg.size, fun k hk => hg.block k (Nat.lt_of_lt_of_le hk (by have := h5.size; omega)) (fun e => by have := (hr k e.symm).1; omega)⟩⟩
    refine ⟨h3.1, ?_⟩
    rcases h3.2 with q | ⟨g, cap, cur, e, q1, q2, q3⟩
    · exact .inl q
    · exact .inr ⟨g, cap, cur, e, q1, hbx x q2 rfl, q3⟩
  · obtain ⟨⟨v, h2, h3, h4⟩, h5⟩ := hs
    rcases hO with rfl | ⟨v', h6, h7⟩
    · exact h2.lt
    · have : v' = v := boxed_inj h6 h2
      subst this
      exact (own_lt h3 k h7).2
  · obtain ⟨⟨v, h2, h3, h4⟩, h5⟩ := hs
    rcases hO with rfl | ⟨v', h6, h7⟩
    · exact .inl rfl
    · have h8 := hbx x h2 rfl
      have : v' = v := boxed_inj h6 h8
      subst this
      exact .inr ⟨v', h2, h7⟩
theorem kc_gat {z1 : Nat} {W W' : World} {v v' : Value} (h1 : Boxed W z1 22 v) (h2 : Boxed W' z1 22 v') (x : Ext (z1 :: v.ownBlock.toList) W W') (hn : v'.ownBlock = v.ownBlock ∨ ∀ q, v'.ownBlock = some q → W.heap.size ≤ q) : Kc (Obx z1) W W' := by
  refine ⟨x.size, fun k o hk _ hO => x.keep hk (fun q => ?_), fun k hk => ?_⟩
  · rcases List.mem_cons.1 q with rfl | q
    · exact hO (.inl rfl)
    · exact hO (.inr ⟨v, h1, by simpa using q⟩)
  · rcases hk with rfl | ⟨u, h3, h4⟩
    · exact .inl (.inl rfl)
    · have : u = v' := boxed_inj h3 h2
      subst this
      rcases hn with q | q
      · exact .inl (.inr ⟨v, h1, by rw [← q]; exact h4⟩)
      · exact .inr (q k h4)
/-- One word more: the world behind append and store. -/
theorem gat_push {w1 W U : World} {z1 : Nat} {L : List Nat} {x : Nat} {va : Option Addr} {n vc : Nat} (hn : L.length = n) (hw : w1.heap.size = z1) (hv : Boxed W z1 22 (.slice va n vc)) (ho : W.ownsRow z1 23 1 (.slice va n vc) n (vw L)) (hvn : ∀ q, (Value.slice va n vc).ownBlock = some q → z1 < q) (hB : Below z1 w1 W) (hU : Ext [] W U)
    (hx : U.cell? ⟨W.heap.size, 0, none⟩ = some (.int .u64 (x : Nat))) (hl : n ≤ 1000000) :
    ∃ v' U', (Builtin.append_ #[22, 22] 22 #[.slice va n vc, .slice (some ⟨W.heap.size, 0, none⟩) 1 1]).run Tryd.prog U = .ok v' U' ∧ (∃ a' c', v' = .slice a' (n + 1) c') ∧ Boxed U' z1 22 (.slice va n vc) ∧ Gat w1 z1 (L ++ [x]) (U'.setCell ⟨z1, 0, none⟩ v') ∧ Kc (Obx z1) W (U'.setCell ⟨z1, 0, none⟩ v') ∧ KeepsOthers W (U'.setCell ⟨z1, 0, none⟩ v') ∧ Ext (z1 :: (Value.slice va n vc).ownBlock.toList) W (U'.setCell ⟨z1, 0, none⟩ v') ∧ Ext (Value.slice va n vc).ownBlock.toList W U' := by
  obtain ⟨i, hi0, hz0, hz1, hz2⟩ := info_parts info23
  have hz1l := hv.lt
  obtain ⟨v', U', hr, ho5, hg5, _, hn5⟩ := run_append_own_at (P := Tryd.prog) U z1 22 22 23 i _ 1 8 Tryd.underlying22 hi0 hz0 hz1 hz2 rfl (by decide) (.slice va n vc) n (vw L) (own_keep0 ho hU) ⟨W.heap.size, 0, none⟩ 1 1 [.int .u64 (x : Nat)] rfl (fun j u2 hu2 => by
    cases j with
    | zero => rw [Addr.add_lit, Nat.zero_add, hx, ← hu2]; rfl
    | succ j => simp at hu2) (by simp [Value.oneCell']) (by unfold maxLen; omega) (by omega) (by have := hU.size; omega)
  have hx5 : Ext (Value.slice va n vc).ownBlock.toList W U' := (hU.mono (by simp)).trans (ext_grown hg5)
  have hzn : z1 ∉ (Value.slice va n vc).ownBlock.toList := by
    intro hm
    rw [Option.mem_toList] at hm
    have := hvn z1 hm
    omega
  have hbz : Boxed U' z1 22 (.slice va n vc) := hx5.keep hv hzn
  have hx6 := Ext.setCell [z1] U' ⟨z1, 0, none⟩ v' (by simp)
  have hvn5 : ∀ g, v'.ownBlock = some g → z1 < g := fun g hg => by
    rcases hn5 with q | q
    · rw [q] at hg; exact hvn g hg
    · rw [q] at hg; simp at hg; have := hU.size; omega
  obtain ⟨a5, c5, hv5, _⟩ := own_slice ho5
  have hxx : Ext (z1 :: (Value.slice va n vc).ownBlock.toList) W (U'.setCell ⟨z1, 0, none⟩ v') := (hx5.mono (by simp; intro a ha; exact .inr ha)).trans (hx6.mono (by simp))
  refine ⟨v', U', hr, ⟨a5, c5, hv5⟩, hbz, ⟨⟨v', hbz.set v', ?_, hvn5⟩, ?_⟩, kc_gat hv (hbz.set v') hxx ?_, ?_, hxx, hx5⟩
  · rw [List.length_append, vw_append, hn]
    exact own_keep ho5 hx6 (fun q hq hvv => by simp only [List.mem_singleton] at hq; have := hvn5 q hvv; omega)
  · refine hB.trans ⟨hxx.os, hxx.tape, hxx.output, hxx.size, fun k hk => hxx.block k (by omega) (fun q => ?_)⟩
    rcases List.mem_cons.1 q with e | q
    · omega
    · rw [Option.mem_toList] at q
      have := hvn k q
      omega
  · rcases hn5 with q | q
    · exact .inl q
    · right
      intro k hk
      rw [q] at hk
      simp at hk
      have := hU.size
      omega
  · refine ⟨hxx.size, fun k o hk ho' => hxx.keep hk (fun q => ?_)⟩
    rcases List.mem_cons.1 q with e | q
    · subst e; rw [show W.heap[k]? = _ from hv] at hk; cases hk; cases ho'
    · rw [Option.mem_toList] at q
      rcases ho.2 with ⟨e, _⟩ | ⟨g, cap, cur, e, _, hg, _⟩
      · rw [e] at q; simp [Value.ownBlock] at q
      · rw [e] at q; simp [Value.ownBlock] at q; subst q; rw [hg] at hk; cases hk; cases ho'
theorem below_gat {w1 W : World} {z1 : Nat} {L : List Nat} (h : Gat w1 z1 L W) : Below z1 w1 W := h.2
theorem matches_any (a : Option Addr) (n c h : Nat) (w : World) : Calls Tryd.prog 41 #[.slice a n c, .int .u64 (h : Nat)] w fun e w' => e = .returned (.func (.func 75) #[] #[.pointer (some ⟨w.heap.size + 1, 0, none⟩), .pointer (some ⟨w.heap.size, 0, none⟩)]) ∧ w' = (w.alloc (.cells #[.slice a n c] 22)).alloc (.cells #[.int .u64 (h : Nat)] 23) := by
  go_enter Tryd.func41, Tryd.ntmps41
  go_wp2
  go_ret
  exact ⟨rfl, rfl⟩
theorem entries_any (a : Option Addr) (n c : Nat) (w : World) : Calls Tryd.prog 44 #[.slice a n c] w fun e w' => e = .returned (.func (.func 78) #[] #[.pointer (some ⟨w.heap.size, 0, none⟩)]) ∧ w' = w.alloc (.cells #[.slice a n c] 22) := by
  go_enter Tryd.func44, Tryd.ntmps44
  go_wp2
  go_ret
  exact ⟨rfl, rfl⟩
theorem tvalues_any (a : Option Addr) (n c : Nat) (w : World) : Calls Tryd.prog 54 #[.slice a n c] w fun e w' => e = .returned (.func (.func 81) #[] #[.pointer (some ⟨w.heap.size, 0, none⟩)]) ∧ w' = w.alloc (.cells #[.slice a n c] 22) := by
  go_enter Tryd.func54, Tryd.ntmps54
  go_wp2
  go_ret
  exact ⟨rfl, rfl⟩
end Go.Proofs.YtkknadkcpndnaaaDoor
