/-
  Alloc and Free, as calls; no statement is proved here.
-/
import Derived.Test.YtlajjcboahflbaaDoorFree
namespace Go.Proofs.YtlajjcboahflbaaDoor
open Go.RowKit

/-- How pages have turned, and what was answered. -/
def AlPost (T : TypeId) (ox : Nat) (cs : Array Value) (w : World) (p : Nat) (v : Value) (L' : List Rn) (r : Value) (e : Ending) (w' : World) : Prop :=
  ∃ v', e = .returned r ∧ Rs T ox cs w' p v' L' ∧ OldNew w v v' ∧ Ext (p :: v.ownBlock.toList) w w'

theorem al_keep {T : TypeId} {ox : Nat} {cs : Array Value} {w w' : World} {p : Nat} {v : Value} {L : List Rn} (hR : Rs T ox cs w p v L) (hE : Ext [] w w') (r : Value) : AlPost T ox cs w p v L r (.returned r) w' :=
  ⟨v, rfl, hR.keep0 hE, .inl rfl, hE.mono (by simp)⟩

theorem al_of_tk {T : TypeId} {ox : Nat} {cs : Array Value} {w w1 w2 : World} {p : Nat} {v : Value} {L' : List Rn} {e : Ending} {r : Value} (hE : Ext [] w w1) (h : TkPost T ox cs w1 p v L' e w2) : AlPost T ox cs w p v L' r (.returned r) w2 := by
  obtain ⟨v', _, hR, hON, hX⟩ := h
  exact ⟨v', rfl, hR, hON.imp id (fun h g hg => by have := h g hg; have := hE.size; omega), (hE.mono (by simp)).trans hX⟩

theorem alloc_arg {ox : Nat} (p : Nat) (n : Int) (w : World) (h : n < 1) : Calls Tryd.prog 72 #[.pointer (some ⟨p, ox + 1, none⟩), .int .i64 n] w fun e w' => e = .returned (.tuple #[.int .i64 0, .int .i64 2]) ∧ w' = w := by
  go_enter Tryd.func72, Tryd.ntmps72
  go_wp2
  go_ret2
  exact ⟨rfl, rfl⟩

set_option maxRecDepth 100000 in
set_option maxHeartbeats 4000000 in
theorem alloc_full {T : TypeId} {ox : Nat} {cs : Array Value} (p : Nat) (n : Int) (v : Value) (L : List Rn) (w : World) (hR : Rs T ox cs w p v L) (h1 : 1 ≤ n) (hno : ∀ j, j < L.length → (rnAt L j).u = true ∨ ((rnAt L j).n : Int) < n) (hlen : L.length ≤ 10000) :
    Calls Tryd.prog 72 #[.pointer (some ⟨p, ox + 1, none⟩), .int .i64 n] w (AlPost T ox cs w p v L (.tuple #[.int .i64 0, .int .i64 7])) := by
  obtain ⟨a, c, rfl, hnc⟩ := hR.row.slice
  have hc := hR.cell
  have HR := hid hR
  have HN := hid hno
  clear hR hno
  have h1' : ¬ n < 1 := by omega
  go_enter Tryd.func72, Tryd.ntmps72
  go_wp2_with fail
  go_loopw [19] (fun q wr => ∃ k : Nat, q = .int .i64 k ∧ k ≤ L.length ∧ Ext [] w wr) (fun q _ => (L.length - (intOf q)).toNat)
  case atStart => exact ⟨0, rfl, Nat.zero_le _, Ext.refl _ _⟩
  case round =>
    obtain ⟨k, rfl, hk, hE⟩ := hrel
    have HE := hid hE
    clear hE
    by_cases hlt : k < L.length
    · obtain ⟨g, c', hv, _, _, hg, hcs⟩ := (HR.out.row.keep0 HE.out).at_ (by omega)
      simp only [Value.slice.injEq, true_and] at hv
      obtain ⟨rfl, rfl⟩ := hv
      obtain ⟨c0, c1, c2⟩ := hcs k hlt
      have hn := HN.out k hlt
      clear hcs
      generalize rnAt L k = x at *
      cases hu : x.u
      · have h2 : (x.n : Int) < n := by
          rcases hn with h | h
          · rw [hu] at h; cases h
          · exact h
        have h3 : ¬ (n ≤ (x.n : Int)) := by omega
        rw [hu] at c2
        clear hu hn
        go_wp2_with fail
        go_roundw
        case rel => exact ⟨k + 1, by go_num, by omega, HE.out.trans (Ext.alloc [] _ _)⟩
        case measure => simp [intOf]; omega
      · rw [hu] at c2
        clear hu hn
        go_wp2_with fail
        go_roundw
        case rel => exact ⟨k + 1, by go_num, by omega, HE.out.trans (Ext.alloc [] _ _)⟩
        case measure => simp [intOf]; omega
    · go_wp2_with fail
      go_ret2
      exact al_keep HR.out HE.out _

set_option maxRecDepth 100000 in
set_option maxHeartbeats 4000000 in
theorem alloc_hit {T : TypeId} {ox : Nat} {cs : Array Value} (p i : Nat) (n : Nat) (v : Value) (L : List Rn) (w : World) (hR : Rs T ox cs w p v L) (h1 : 1 ≤ n) (hi : i < L.length) (hu : (rnAt L i).u = false) (hn : n ≤ (rnAt L i).n) (hb : (rnAt L i).s + (rnAt L i).n ≤ 1024)
    (hno : ∀ j, j < i → (rnAt L j).u = true ∨ (rnAt L j).n < n) (hlen : L.length ≤ 10000) :
    Calls Tryd.prog 72 #[.pointer (some ⟨p, ox + 1, none⟩), .int .i64 n] w (AlPost T ox cs w p v (takeL L i n) (.tuple #[.int .i64 (rnAt L i).s, .int .i64 0])) := by
  obtain ⟨a, c, rfl, hnc⟩ := hR.row.slice
  have hc := hR.cell
  have HR := hid hR
  have HN := hid hno
  have HU := hid hu
  clear hR hno hu
  have h1' : ¬ (n : Int) < 1 := by omega
  have HK : Hid (∀ W, Ext [] w W → Calls Tryd.prog 84 #[.pointer (some ⟨p, ox + 1, none⟩), .int .i64 i, .int .i64 n] W (TkPost T ox cs W p (.slice a L.length c) (takeL L i n))) := fun W hW => take_any p i n _ L W (HR.out.keep0 hW) hi hb hlen
  go_enter Tryd.func72, Tryd.ntmps72
  go_wp2_with fail
  go_loopw [19] (fun q wr => ∃ k : Nat, q = .int .i64 k ∧ k ≤ i ∧ Ext [] w wr) (fun q _ => (L.length - (intOf q)).toNat)
  case atStart => exact ⟨0, rfl, Nat.zero_le _, Ext.refl _ _⟩
  case round =>
    obtain ⟨k, rfl, hk, hE⟩ := hrel
    have HE := hid hE
    clear hE
    obtain ⟨g, c', hv, _, _, hg, hcs⟩ := (HR.out.row.keep0 HE.out).at_ (by omega)
    simp only [Value.slice.injEq, true_and] at hv
    obtain ⟨rfl, rfl⟩ := hv
    obtain ⟨c0, c1, c2⟩ := hcs k (by omega)
    clear hcs
    by_cases hlt : k < i
    · have hn2 := HN.out k hlt
      generalize rnAt L k = x at *
      cases hu : x.u
      · have h2 : x.n < n := by
          rcases hn2 with h | h
          · rw [hu] at h; cases h
          · exact h
        have h3 : ¬ ((n : Int) ≤ (x.n : Int)) := by omega
        rw [hu] at c2
        clear hu hn2
        go_wp2_with fail
        go_roundw
        case rel => exact ⟨k + 1, by go_num, by omega, HE.out.trans (Ext.alloc [] _ _)⟩
        case measure => simp [intOf]; omega
      · rw [hu] at c2
        clear hu hn2
        go_wp2_with fail
        go_roundw
        case rel => exact ⟨k + 1, by go_num, by omega, HE.out.trans (Ext.alloc [] _ _)⟩
        case measure => simp [intOf]; omega
    · obtain rfl : k = i := by omega
      have hu := HU.out
      rw [hu] at c2
      clear hu
      have h3 : (n : Int) ≤ ((rnAt L k).n : Int) := by omega
      have HE2 := hid (HE.out.trans (Ext.alloc [] wr (.cells #[.int .i64 (rnAt L k).s, .int .i64 (rnAt L k).n, .bool false] 38)))
      have HO : Hid (One (wr.alloc (.cells #[.int .i64 (rnAt L k).s, .int .i64 (rnAt L k).n, .bool false] 38)) wr.heap.size ⟨(rnAt L k).s, (rnAt L k).n, false⟩) := heap_alloc_new wr _
      have K := HK.out _ HE2.out
      have hls := HR.out.lt
      have hgs : ∀ q, (Value.slice (some ⟨g, 0, none⟩) L.length c).ownBlock = some q → q < w.heap.size := HR.out.row.lt
      have hws := HE.out.size
      generalize takeL L k n = L' at *
      generalize rnAt L k = x at *
      go_wp2_with fail
      refine K.mono ?_
      clear K
      rintro e w2 h
      have hX := h.choose_spec.2.2.2
      have hE := h.choose_spec.1
      subst hE
      have ho2 := HO.out.keep hX (by
        simp only [List.mem_cons, Option.mem_toList, not_or]
        refine ⟨by omega, fun h => ?_⟩
        have := hgs _ h
        omega)
      have d0 : w2.cell? ⟨wr.heap.size, 0, none⟩ = some (.int .i64 x.s) := by rw [cell_of_row _ _ _ _ _ _ ho2]; rfl
      have H := hid h
      clear hX ho2 h
      go_wp2_with fail
      go_ret2
      exact al_of_tk HE2.out H.out

set_option maxRecDepth 100000 in
set_option maxHeartbeats 4000000 in
theorem free_none {T : TypeId} {ox : Nat} {cs : Array Value} (p : Nat) (n : Int) (v : Value) (L : List Rn) (w : World) (hR : Rs T ox cs w p v L) (hno : ∀ j, j < L.length → (rnAt L j).u = false ∨ ((rnAt L j).s : Int) ≠ n) (hlen : L.length ≤ 10000) :
    Calls Tryd.prog 47 #[.pointer (some ⟨p, ox + 1, none⟩), .int .i64 n] w (AlPost T ox cs w p v L (.tuple #[.int .i64 0, .int .i64 4])) := by
  obtain ⟨a, c, rfl, hnc⟩ := hR.row.slice
  have hc := hR.cell
  have HR := hid hR
  have HN := hid hno
  clear hR hno
  go_enter Tryd.func47, Tryd.ntmps47
  go_wp2_with fail
  go_loopw [15] (fun q wr => ∃ k : Nat, q = .int .i64 k ∧ k ≤ L.length ∧ Ext [] w wr) (fun q _ => (L.length - (intOf q)).toNat)
  case atStart => exact ⟨0, rfl, Nat.zero_le _, Ext.refl _ _⟩
  case round =>
    obtain ⟨k, rfl, hk, hE⟩ := hrel
    have HE := hid hE
    clear hE
    by_cases hlt : k < L.length
    · obtain ⟨g, c', hv, _, _, hg, hcs⟩ := (HR.out.row.keep0 HE.out).at_ (by omega)
      simp only [Value.slice.injEq, true_and] at hv
      obtain ⟨rfl, rfl⟩ := hv
      obtain ⟨c0, c1, c2⟩ := hcs k hlt
      have hn := HN.out k hlt
      clear hcs
      generalize rnAt L k = x at *
      cases hu : x.u
      rotate_left
      · have h2 : (x.s : Int) ≠ n := by
          rcases hn with h | h
          · rw [hu] at h; cases h
          · exact h
        have h3 : ((x.s : Int) == n) = false := by simp [h2]
        rw [hu] at c2
        clear hu hn h2
        go_wp2_with fail
        go_roundw
        case rel => exact ⟨k + 1, by go_num, by omega, HE.out.trans (Ext.alloc [] _ _)⟩
        case measure => simp [intOf]; omega
      · rw [hu] at c2
        clear hu hn
        go_wp2_with fail
        go_roundw
        case rel => exact ⟨k + 1, by go_num, by omega, HE.out.trans (Ext.alloc [] _ _)⟩
        case measure => simp [intOf]; omega
    · go_wp2_with fail
      go_ret2
      exact al_keep HR.out HE.out _

set_option maxRecDepth 100000 in
set_option maxHeartbeats 4000000 in
theorem free_hit {T : TypeId} {ox : Nat} {cs : Array Value} (p i : Nat) (n : Int) (v : Value) (L : List Rn) (w : World) (hR : Rs T ox cs w p v L) (hi : i < L.length) (hu : (rnAt L i).u = true) (hn : ((rnAt L i).s : Int) = n) (hf : Few L)
    (hno : ∀ j, j < i → (rnAt L j).u = false ∨ ((rnAt L j).s : Int) ≠ n) (hlen : L.length ≤ 10000) :
    Calls Tryd.prog 47 #[.pointer (some ⟨p, ox + 1, none⟩), .int .i64 n] w (AlPost T ox cs w p v (relL L i) (.tuple #[.int .i64 (rnAt L i).n, .int .i64 0])) := by
  obtain ⟨a, c, rfl, hnc⟩ := hR.row.slice
  have hc := hR.cell
  have HR := hid hR
  have HN := hid hno
  have HU := hid hu
  have HS := hid hn
  clear hR hno hu hn
  have HK : Hid (∀ W, Ext [] w W → Calls Tryd.prog 74 #[.pointer (some ⟨p, ox + 1, none⟩), .int .i64 i] W (TkPost T ox cs W p (.slice a L.length c) (relL L i))) := fun W hW => release_any p i _ L W (HR.out.keep0 hW) hi hf hlen
  go_enter Tryd.func47, Tryd.ntmps47
  go_wp2_with fail
  go_loopw [15] (fun q wr => ∃ k : Nat, q = .int .i64 k ∧ k ≤ i ∧ Ext [] w wr) (fun q _ => (L.length - (intOf q)).toNat)
  case atStart => exact ⟨0, rfl, Nat.zero_le _, Ext.refl _ _⟩
  case round =>
    obtain ⟨k, rfl, hk, hE⟩ := hrel
    have HE := hid hE
    clear hE
    obtain ⟨g, c', hv, _, _, hg, hcs⟩ := (HR.out.row.keep0 HE.out).at_ (by omega)
    simp only [Value.slice.injEq, true_and] at hv
    obtain ⟨rfl, rfl⟩ := hv
    obtain ⟨c0, c1, c2⟩ := hcs k (by omega)
    clear hcs
    by_cases hlt : k < i
    · have hn2 := HN.out k hlt
      generalize rnAt L k = x at *
      cases hu : x.u
      rotate_left
      · have h2 : (x.s : Int) ≠ n := by
          rcases hn2 with h | h
          · rw [hu] at h; cases h
          · exact h
        have h3 : ((x.s : Int) == n) = false := by simp [h2]
        rw [hu] at c2
        clear hu hn2 h2
        go_wp2_with fail
        go_roundw
        case rel => exact ⟨k + 1, by go_num, by omega, HE.out.trans (Ext.alloc [] _ _)⟩
        case measure => simp [intOf]; omega
      · rw [hu] at c2
        clear hu hn2
        go_wp2_with fail
        go_roundw
        case rel => exact ⟨k + 1, by go_num, by omega, HE.out.trans (Ext.alloc [] _ _)⟩
        case measure => simp [intOf]; omega
    · obtain rfl : k = i := by omega
      have hu := HU.out
      rw [hu] at c2
      clear hu
      have h3 : (((rnAt L k).s : Int) == n) = true := by simp [HS.out]
      have HE2 := hid (HE.out.trans (Ext.alloc [] wr (.cells #[.int .i64 (rnAt L k).s, .int .i64 (rnAt L k).n, .bool true] 38)))
      have HO : Hid (One (wr.alloc (.cells #[.int .i64 (rnAt L k).s, .int .i64 (rnAt L k).n, .bool true] 38)) wr.heap.size ⟨(rnAt L k).s, (rnAt L k).n, true⟩) := heap_alloc_new wr _
      have K := HK.out _ HE2.out
      have hls := HR.out.lt
      have hgs : ∀ q, (Value.slice (some ⟨g, 0, none⟩) L.length c).ownBlock = some q → q < w.heap.size := HR.out.row.lt
      have hws := HE.out.size
      generalize relL L k = L' at *
      generalize rnAt L k = x at *
      go_wp2_with fail
      refine K.mono ?_
      clear K
      rintro e w2 h
      have hX := h.choose_spec.2.2.2
      have hE := h.choose_spec.1
      subst hE
      have ho2 := HO.out.keep hX (by
        simp only [List.mem_cons, Option.mem_toList, not_or]
        refine ⟨by omega, fun h => ?_⟩
        have := hgs _ h
        omega)
      have d0 : w2.cell? ⟨wr.heap.size, 1, none⟩ = some (.int .i64 x.n) := by rw [cell_of_row _ _ _ _ _ _ ho2]; rfl
      have H := hid h
      clear hX ho2 h
      go_wp2_with fail
      go_ret2
      exact al_of_tk HE2.out H.out


end Go.Proofs.YtlajjcboahflbaaDoor
